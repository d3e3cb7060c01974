/- A passage goes through its stages. -/
import Derived.Test.YtpjpkkgcnnmljaaSC
namespace Go.Proofs.Ytpjpkkgcnnmljaa
open Go.RowKit

set_option maxRecDepth 20000 in
set_option maxHeartbeats 8000000 in
theorem through_any {w : World} {p g : Nat} (St : Nat → World → Prop) (hgp : g ≠ p) (hs : St 0 w) (k0 : w.cell? ⟨g, 0, none⟩ = some (.func (.func 23) #[] #[])) (k1 : w.cell? ⟨g, 1, none⟩ = some (.func (.func 24) #[] #[])) (k2 : w.cell? ⟨g, 2, none⟩ = some (.func (.func 25) #[] #[])) (k3 : w.cell? ⟨g, 3, none⟩ = some (.func (.func 26) #[] #[])) (k4 : w.cell? ⟨g, 4, none⟩ = some (.func (.func 27) #[] #[])) (k5 : w.cell? ⟨g, 5, none⟩ = some (.func (.func 28) #[] #[])) (h0 : ∀ W, St 0 W → Kp p w W → Calls Try.prog 23 #[.pointer (some ⟨p, 0, none⟩)] W fun e w' => e = .returned (.bool true) ∧ St 1 w' ∧ Kp p W w') (h1 : ∀ W, St 1 W → Kp p w W → Calls Try.prog 24 #[.pointer (some ⟨p, 0, none⟩)] W fun e w' => e = .returned (.bool true) ∧ St 2 w' ∧ Kp p W w') (h2 : ∀ W, St 2 W → Kp p w W → Calls Try.prog 25 #[.pointer (some ⟨p, 0, none⟩)] W fun e w' => e = .returned (.bool true) ∧ St 3 w' ∧ Kp p W w') (h3 : ∀ W, St 3 W → Kp p w W → Calls Try.prog 26 #[.pointer (some ⟨p, 0, none⟩)] W fun e w' => e = .returned (.bool true) ∧ St 4 w' ∧ Kp p W w') (h4 : ∀ W, St 4 W → Kp p w W → Calls Try.prog 27 #[.pointer (some ⟨p, 0, none⟩)] W fun e w' => e = .returned (.bool true) ∧ St 5 w' ∧ Kp p W w') (h5 : ∀ W, St 5 W → Kp p w W → Calls Try.prog 28 #[.pointer (some ⟨p, 0, none⟩)] W fun e w' => e = .returned (.bool true) ∧ St 6 w' ∧ Kp p W w') :
    Calls Try.prog 22 #[.pointer (some ⟨p, 0, none⟩), .slice (some ⟨g, 0, none⟩) 6 6] w fun e w' => e = .returned (.bool true) ∧ St 6 w' ∧ Kp p w w' := by
  have hgl := World.block_lt_of_cell? w _ k0
  have HS : Hid (St 0 w) := hs
  have H0 : Hid _ := h0
  have H1 : Hid _ := h1
  have H2 : Hid _ := h2
  have H3 : Hid _ := h3
  have H4 : Hid _ := h4
  have H5 : Hid _ := h5
  clear hs h0 h1 h2 h3 h4 h5
  go_enter Try.func22, Try.ntmps22
  go_wp2
  go_loopw [6, 9] (fun _ iv wr => ∃ q : Nat, iv = .int .i64 (q : Int) ∧ q ≤ 6 ∧ Hid (St q wr ∧ Kp p w wr)) (fun _ iv _ => 6 - (intOf iv).toNat)
  case atStart => exact ⟨0, rfl, by omega, HS.out, Kp.refl _ _⟩
  case round =>
    clear HS
    obtain ⟨q, rfl, hq, hrel⟩ := hrel
    by_cases h1 : q < 6
    · have h2 : q = 0 ∨ q = 1 ∨ q = 2 ∨ q = 3 ∨ q = 4 ∨ q = 5 := by omega
      clear hq h1
      rcases h2 with rfl | rfl | rfl | rfl | rfl | rfl
      · have c := (hrel.out.2.cell (q := ⟨g, 0, none⟩) hgp hgl).trans k0
        go_wp2_with (first | (go_at_call 23; refine (H0.out _ hrel.out.1 hrel.out.2).mono ?_; rintro e w2 ⟨rfl, hs, hk⟩; have HS2 : Hid (St 1 w2 ∧ Kp p w w2) := ⟨hs, hrel.out.2.trans hk⟩; clear hs hk))
        go_roundw
        case rel => exact ⟨1, by go_num, by omega, HS2.out⟩
        case measure => simp [intOf]
      · have c := (hrel.out.2.cell (q := ⟨g, 1, none⟩) hgp hgl).trans k1
        go_wp2_with (first | (go_at_call 24; refine (H1.out _ hrel.out.1 hrel.out.2).mono ?_; rintro e w2 ⟨rfl, hs, hk⟩; have HS2 : Hid (St 2 w2 ∧ Kp p w w2) := ⟨hs, hrel.out.2.trans hk⟩; clear hs hk))
        go_roundw
        case rel => exact ⟨2, by go_num, by omega, HS2.out⟩
        case measure => simp [intOf]
      · have c := (hrel.out.2.cell (q := ⟨g, 2, none⟩) hgp hgl).trans k2
        go_wp2_with (first | (go_at_call 25; refine (H2.out _ hrel.out.1 hrel.out.2).mono ?_; rintro e w2 ⟨rfl, hs, hk⟩; have HS2 : Hid (St 3 w2 ∧ Kp p w w2) := ⟨hs, hrel.out.2.trans hk⟩; clear hs hk))
        go_roundw
        case rel => exact ⟨3, by go_num, by omega, HS2.out⟩
        case measure => simp [intOf]
      · have c := (hrel.out.2.cell (q := ⟨g, 3, none⟩) hgp hgl).trans k3
        go_wp2_with (first | (go_at_call 26; refine (H3.out _ hrel.out.1 hrel.out.2).mono ?_; rintro e w2 ⟨rfl, hs, hk⟩; have HS2 : Hid (St 4 w2 ∧ Kp p w w2) := ⟨hs, hrel.out.2.trans hk⟩; clear hs hk))
        go_roundw
        case rel => exact ⟨4, by go_num, by omega, HS2.out⟩
        case measure => simp [intOf]
      · have c := (hrel.out.2.cell (q := ⟨g, 4, none⟩) hgp hgl).trans k4
        go_wp2_with (first | (go_at_call 27; refine (H4.out _ hrel.out.1 hrel.out.2).mono ?_; rintro e w2 ⟨rfl, hs, hk⟩; have HS2 : Hid (St 5 w2 ∧ Kp p w w2) := ⟨hs, hrel.out.2.trans hk⟩; clear hs hk))
        go_roundw
        case rel => exact ⟨5, by go_num, by omega, HS2.out⟩
        case measure => simp [intOf]
      · have c := (hrel.out.2.cell (q := ⟨g, 5, none⟩) hgp hgl).trans k5
        go_wp2_with (first | (go_at_call 28; refine (H5.out _ hrel.out.1 hrel.out.2).mono ?_; rintro e w2 ⟨rfl, hs, hk⟩; have HS2 : Hid (St 6 w2 ∧ Kp p w w2) := ⟨hs, hrel.out.2.trans hk⟩; clear hs hk))
        go_roundw
        case rel => exact ⟨6, by go_num, by omega, HS2.out⟩
        case measure => simp [intOf]
    · obtain rfl : q = 6 := by omega
      go_wp2
      go_ret
      exact ⟨rfl, hrel.out.1, hrel.out.2⟩

/-- The Points ahead of which one that is louder stands. -/
def sq (z : Nat → Int) (k : Nat) : Int := if k = 0 then 32 else if k = 1 then 0 else z (k - 2)
/-- A burst's Points. -/
def hld (z : Nat → Int) (ra : Nat) (si : Int) (m : Nat) : List (Int × Int) := (List.range m).map fun i => (sq z (i / ra * 2) * si, sq z (i / ra * 2 + 1) * si)
theorem hld_len (z : Nat → Int) (ra : Nat) (si : Int) (m : Nat) : (hld z ra si m).length = m := by unfold hld; rw [List.length_map, List.length_range]
theorem hld_snoc (z : Nat → Int) (ra : Nat) (si : Int) (m : Nat) : hld z ra si (m + 1) = hld z ra si m ++ [(sq z (m / ra * 2) * si, sq z (m / ra * 2 + 1) * si)] := by unfold hld; rw [List.range_succ, List.map_append]; rfl
theorem sq_row (z : Nat → Int) (n : Nat) : [Value.int .i64 32, .int .i64 0] ++ ils z n = ils (sq z) (n + 2) := by
  apply List.ext_getElem?
  intro i
  match i with
  | 0 => rw [ils_get (by omega)]; rfl
  | 1 => rw [ils_get (by omega)]; rfl
  | i + 2 =>
    rw [List.getElem?_append_right (by simp)]
    show (ils z n)[i + 2 - 2]? = _
    rw [show i + 2 - 2 = i by omega]
    by_cases h : i < n
    · rw [ils_get h, ils_get (by omega)]
      unfold sq
      rw [if_neg (by omega), if_neg (by omega), show i + 2 - 2 = i by omega]
    · rw [List.getElem?_eq_none (by rw [ils_length]; omega), List.getElem?_eq_none (by rw [ils_length]; omega)]

/-- A list of Points that came in put behind a row of them. -/
theorem wpList_appp {w : World} {ops : Array Oper} {rest : List Oper} {o : Oper} {a : Act} {Q : Exit → Act → World → Prop} (hgd : o.guard = none) (s x : Operand)
    (ho : o.op = .call { callee := .builtin .append, args := #[s, x], argTypes := #[25, 25] }) (base : Nat) (v xv : Value) (n m : Nat) (xs : List Value) (ys : Nat → Int) (hs : a.eval s = v) (hx : a.eval x = xv)
    (hown : w.ownsRow base 47 2 v n xs) (hsrc : Il2 w xv m ys) (hm : 0 < m) (hnm : n + m ≤ 1048576) (hbase : base ≤ w.heap.size)
    (h : ∀ v' w', w'.ownsRow base 47 2 v' (n + m) (xs ++ ils ys (m * 2)) → w.grownBy w' v.ownBlock → (v'.ownBlock = v.ownBlock ∨ v'.ownBlock = some w.heap.size) → wpList Try.prog ops Q rest (a.put o.dst v') w') : wpList Try.prog ops Q (o :: rest) a w := by
  obtain ⟨i0, hi, hz0, hz1, hz2⟩ := info_parts Try.info47
  obtain ⟨ao, cap, rfl, hcap, hc⟩ := hsrc
  obtain ⟨b, off, rfl, hlt, hcell⟩ := hc hm
  refine wpList_app w hgd s x 25 ho base 47 i0 (.agg #[.int .i64 0, .int .i64 0]) 2 16 Try.underlying25 hi hz0 hz1 hz2 rfl (by decide) v n xs hs hown ⟨b, off, none⟩ m cap (ils ys (m * 2)) hx (by rw [ils_length]) (fun j u hu => ?_) (ils_one _ _) (by unfold maxLen; omega) (by omega) hbase hm (fun v' w' h2 h3 h4 => h v' w' h2 h3 (h4.imp id (fun h5 => h5.1)))
  by_cases hj : j < m * 2
  · rw [ils_get hj] at hu
    have hq : j = j / 2 * 2 ∨ j = j / 2 * 2 + 1 := by omega
    have h6 : w.cell? ⟨b, off + j, none⟩ = some u := by
      obtain ⟨g1, g2⟩ := hcell (j / 2) (by omega)
      rcases hq with e | e
      · rw [← e] at g1; exact g1.trans hu
      · rw [Nat.add_assoc, ← e] at g2; exact g2.trans hu
    unfold Addr.add
    split
    · rename_i h7
      obtain rfl : j = 0 := by simpa using h7
      exact h6
    · exact h6
  · rw [List.getElem?_eq_none (by rw [ils_length]; omega)] at hu
    cases hu
end Go.Proofs.Ytpjpkkgcnnmljaa
