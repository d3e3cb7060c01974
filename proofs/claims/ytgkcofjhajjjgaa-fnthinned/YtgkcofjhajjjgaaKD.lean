/- Thicken: both sides. -/
import Derived.Test.YtgkcofjhajjjgaaKB
namespace Go.Proofs.Ytgkcofjhajjjgaa
open Go.RowKit

theorem made_zero (k : Nat) : (madeCells (Value.int .i64 0).cells (k * 1)).toList = ils (fun _ => 0) k := by
  apply List.ext_getElem?
  intro i
  by_cases h : i < k
  · rw [ils_get h]
    simp [madeCells, Value.cells, h, Nat.mod_one]
  · rw [List.getElem?_eq_none (by rw [Array.length_toList, size_madeCells]; omega), List.getElem?_eq_none (by rw [ils_length]; omega)]

/-- A list of noughts made. -/
def mkd (W : World) (k : Nat) : World := W.alloc (.cells (madeCells (Value.int .i64 0).cells (k * 1)) 3)

theorem mkd_run (W : World) {k : Nat} (hk : k ≤ 1048576) : (Instr.makeSlice 24 (.int .i64 (k : Int)) (.int .i64 (k : Int))).run Try.prog W = .ok (.slice (some ⟨W.heap.size, 0, none⟩) k k) (mkd W k) := by
  obtain ⟨i0, hi, hz0, hz1, hz2⟩ := info_parts Try.info3
  have h := run_make (P := Try.prog) W 24 3 i0 (.int .i64 0) Try.underlying24 hi hz0 .i64 .i64 k k (by omega) (Int.le_refl _) (by rw [hz2]; omega) (by omega)
  rw [Int.toNat_natCast, hz1] at h
  exact h

theorem mkd_own (W : World) {B k : Nat} (hk : k ≤ 1048576) (hB : B ≤ W.heap.size) : (mkd W k).ownsRow B 3 1 (.slice (some ⟨W.heap.size, 0, none⟩) k k) k (ils (fun _ => 0) k) := by
  have h := World.ownsRow_lit (base := B) (e := 3) (size := 1) W (madeCells (Value.int .i64 0).cells (k * 1)) k hB (by unfold maxLen; omega) (size_madeCells _ _)
  rw [made_zero] at h
  exact h

theorem mkd_below (W : World) (k : Nat) : Below W.heap.size W (mkd W k) := below_one _ _

theorem mkd_size (W : World) (k : Nat) : (mkd W k).heap.size = W.heap.size + 1 := Array.size_push _

/-- What is told by Thicken. -/
def thk (q : Nat) (ks xs : Nat → Int) (i : Nat) : Int := if Kt q ks i then xs (kc q ks i) else 0
/-- .. when the first j numbers are put in their places. -/
def thj (q : Nat) (ks xs : Nat → Int) (j i : Nat) : Int := if Kt q ks i ∧ kc q ks i < j then xs (kc q ks i) else 0

theorem thj_zero (q : Nat) (ks xs : Nat → Int) : thj q ks xs 0 = fun _ => 0 := by
  funext i
  rw [thj, if_neg (fun h => by omega)]

theorem thj_step {q : Nat} {ks xs : Nat → Int} {j p : Nat} (hp : Kt q ks p) (hj : kc q ks p = j) : (fun i => if i = p then xs j else thj q ks xs j i) = thj q ks xs (j + 1) := by
  funext i
  by_cases h : i = p
  · subst h
    rw [if_pos rfl, thj, if_pos ⟨hp, by omega⟩, hj]
  · rw [if_neg h, thj, thj]
    by_cases h1 : Kt q ks i ∧ kc q ks i < j
    · rw [if_pos h1, if_pos ⟨h1.1, by omega⟩]
    · rw [if_neg h1, if_neg]
      rintro ⟨h2, h3⟩
      by_cases h4 : kc q ks i < j
      · exact h1 ⟨h2, h4⟩
      · exact h (kt_one h2 hp (by omega))

theorem thj_all {q : Nat} {ks xs : Nat → Int} {n i : Nat} (h : i < n) : thj q ks xs (kc q ks n) i = thk q ks xs i := by
  unfold thj thk
  by_cases h1 : Kt q ks i
  · rw [if_pos h1, if_pos ⟨h1, kc_lt h h1⟩]
  · rw [if_neg h1, if_neg (fun h9 => h1 h9.1)]

set_option maxHeartbeats 4000000 in
theorem iThk_good {w : World} {v u : Value} {m q : Nat} {xs ks : Nat → Int} (hv : Il w v m xs) (hu : Il w u q ks) {n : Nat} (hn : n ≤ 1024) (hq : Kp q ks) (hm : kc q ks n = m) : Calls Try.prog 22 #[v, u, .int .i64 n] w fun e w' => Pst w w' e n (thk q ks xs) true := by
  have i1 := iKeep_any hu (by have := hq.1; omega)
  rw [decide_eq_true hq] at i1
  have i2 := places_any hu hq hn
  have hq0 := hq.pos
  have hq1 := hq.1
  have hN := kc_le q ks n
  clear hq
  obtain ⟨ao, cap, rfl, hcap, hc⟩ := hv
  obtain ⟨bo, cap2, rfl, hcap2, hc2⟩ := hu
  have HC : Hid (0 < m → ∃ b off, ao = some ⟨b, off, none⟩ ∧ b < w.heap.size ∧ ∀ k, k < m → w.cell? ⟨b, off + k, none⟩ = some (.int .i64 (xs k))) := hc
  clear hc hc2
  have HN : Hid (kc q ks n = m) := hm
  rw [hm] at hN i2
  clear hm
  have MR : Hid (∀ W : World, (Instr.makeSlice 24 (.int .i64 (n : Int)) (.int .i64 (n : Int))).run Try.prog W = .ok (.slice (some ⟨W.heap.size, 0, none⟩) n n) (mkd W n)) := fun W => mkd_run W (by omega)
  go_enter Try.func22, Try.ntmps22
  go_wp2_with (first | (go_at_call 50; (with_reducible refine (i1).mono ?_); rintro e w' ⟨rfl, hw⟩; obtain rfl := hw.symm) | (go_at_call 51; (with_reducible refine i2.mono ?_); rintro e w3 ⟨pl, rfl, hop, hb3⟩; have OP : Hid (Il w3 pl m (fun j => (pf q ks n j : Int))) := il_of_own hop; have BL3 : Hid (Below w.heap.size w w3) := hb3; have MR3 := MR.out w3; clear hop hb3; obtain ⟨po, cap3, rfl, hcap3, hc3⟩ := OP.out; have HC3 : Hid (0 < m → ∃ b off, po = some ⟨b, off, none⟩ ∧ b < w3.heap.size ∧ ∀ k, k < m → w3.cell? ⟨b, off + k, none⟩ = some (.int .i64 ((fun j => (pf q ks n j : Int)) k))) := hc3; clear hc3 OP))
  clear i1 i2 MR MR3
  have OT : Hid ((mkd w3 n).ownsRow w3.heap.size 3 1 (.slice (some ⟨w3.heap.size, 0, none⟩) n n) n (ils (thj q ks xs 0) n)) := by rw [thj_zero]; exact mkd_own w3 (by omega) (Nat.le_refl _)
  have BT : Hid (Below w3.heap.size w3 (mkd w3 n)) := mkd_below _ _
  generalize mkd w3 n = W3 at *
  go_loopw [10, 11, 37] (fun _ _ i wr => ∃ (k : Nat), i = .int .i64 k ∧ k ≤ m ∧ Hid (wr.ownsRow w3.heap.size 3 1 (.slice (some ⟨w3.heap.size, 0, none⟩) n n) n (ils (thj q ks xs k) n) ∧ Below w3.heap.size w3 wr)) (fun _ _ i _ => m - (intOf i).toNat)
  case atStart => exact ⟨0, rfl, by omega, OT.out, BT.out⟩
  case round =>
    obtain ⟨k, rfl, hk, hrel⟩ := hrel
    by_cases h1 : k < m
    · obtain ⟨b3, off3, rfl, hlt3, hcell3⟩ := HC3.out (by omega)
      have c3 := (hrel.out.2.cell (p := ⟨b3, off3 + k, none⟩) hlt3).trans (hcell3 k h1)
      obtain ⟨p, hp⟩ : ∃ p : Nat, p = pf q ks n k := ⟨_, rfl⟩
      obtain ⟨hpn, hp2, hp3⟩ := pf_told (q := q) (ks := ks) (n := n) (j := k) (by rw [HN.out]; exact h1)
      replace c3 : wr.cell? ⟨b3, off3 + k, none⟩ = some (.int .i64 (p : Int)) := by rw [hp]; exact c3
      rw [← hp] at hpn hp2 hp3
      obtain ⟨b, off, rfl, hlt, hcell⟩ := HC.out (by omega)
      have c := ((BL3.out.trans (hrel.out.2.mono BL3.out.size)).cell (p := ⟨b, off + k, none⟩) hlt).trans (hcell k h1)
      have hrow := hrel.out.1
      have hfz := hrow.frozenAt p
      have hst := (hrow.stored p (.int .i64 (xs k))).1
      have hce := hrow.cellAt p (by omega)
      rw [ils_get hpn] at hce
      rw [ils_put, thj_step hp2 hp3] at hst
      have HS : Hid _ := hst
      have HB2 : Hid (Below w3.heap.size w3 wr) := hrel.out.2
      clear hst hrow hcell hcell3 hrel hp hp2 hp3
      generalize thj q ks xs k p = y at hce
      go_wp2
      go_roundw
      case rel => exact ⟨k + 1, by go_num, by omega, HS.out, HB2.out.setCell (Nat.le_refl _) _⟩
      case measure => simp [intOf]; omega
    · obtain rfl : m = k := by omega
      have hrow := hrel.out.1
      rw [ils_congr (g := thk q ks xs) (fun i hi => by rw [← HN.out]; exact thj_all hi)] at hrow
      have HS : Hid (wr.ownsRow w3.heap.size 3 1 (.slice (some ⟨w3.heap.size, 0, none⟩) n n) n (ils (thk q ks xs) n)) := hrow
      have HB2 : Hid (Below w3.heap.size w3 wr) := hrel.out.2
      clear hrow hrel
      go_wp2
      go_ret2
      exact ⟨_, rfl, own_base HS.out BL3.out.size, bstep BL3.out HB2.out⟩

set_option maxHeartbeats 4000000 in
theorem iThk_len {w : World} {v u : Value} {m q : Nat} {xs ks : Nat → Int} (hv : Il w v m xs) (hu : Il w u q ks) {n : Nat} (hn : n ≤ 1024) (hq : Kp q ks) (_ : m ≤ 1048576) (hm : kc q ks n ≠ m) (ys : Nat → Int) : Calls Try.prog 22 #[v, u, .int .i64 n] w fun e w' => Pst w w' e 0 ys false := by
  have i1 := iKeep_any hu (by have := hq.1; omega)
  rw [decide_eq_true hq] at i1
  have i2 := places_any hu hq hn
  have hN := kc_le q ks n
  clear hq
  obtain ⟨ao, cap, rfl, hcap, hc⟩ := hv
  obtain ⟨bo, cap2, rfl, hcap2, hc2⟩ := hu
  clear hc hc2
  obtain ⟨N, hNe⟩ : ∃ N : Nat, N = kc q ks n := ⟨_, rfl⟩
  rw [← hNe] at hN i2 hm
  clear hNe
  go_enter Try.func22, Try.ntmps22
  go_wp2_with (first | (go_at_call 50; (with_reducible refine (i1).mono ?_); rintro e w' ⟨rfl, hw⟩; obtain rfl := hw.symm) | (go_at_call 51; (with_reducible refine i2.mono ?_); rintro e w3 ⟨pl, rfl, hop, hb3⟩; have BL3 : Hid (Below w.heap.size w w3) := hb3; obtain ⟨po, cap3, rfl, hcap3, hc3⟩ := il_of_own hop; clear hop hb3 hc3))
  go_ret2
  exact ⟨_, rfl, own_base (own_empty w3 3 1) BL3.out.size, bstep BL3.out (below_one _ _)⟩

set_option maxHeartbeats 4000000 in
theorem iThk_bad {w : World} {v u : Value} {m q : Nat} {xs ks : Nat → Int} (hv : Il w v m xs) (hu : Il w u q ks) (hq9 : q ≤ 1048576) {x : Int} (h : ¬ (Kp q ks ∧ 0 ≤ x ∧ x ≤ 1024)) (ys : Nat → Int) : Calls Try.prog 22 #[v, u, .int .i64 x] w fun e w' => Pst w w' e 0 ys false := by
  have i1 := iKeep_any hu hq9
  obtain ⟨ao, cap, rfl, hcap, hc⟩ := hv
  obtain ⟨bo, cap2, rfl, hcap2, hc2⟩ := hu
  clear hc hc2
  by_cases h1 : Kp q ks
  · rw [decide_eq_true h1] at i1
    have h2 : ¬ (0 ≤ x ∧ x ≤ 1024) := fun h9 => h ⟨h1, h9⟩
    clear h h1
    by_cases h3 : x < 0
    · go_enter Try.func22, Try.ntmps22
      go_wp2_with (first | (go_at_call 50; (with_reducible refine (i1).mono ?_); rintro e w' ⟨rfl, hw⟩; obtain rfl := hw.symm))
      go_ret2
      exact ⟨_, rfl, own_empty w 3 1, below_one _ _⟩
    · have h4 : 1024 < x := by omega
      clear h2
      go_enter Try.func22, Try.ntmps22
      go_wp2_with (first | (go_at_call 50; (with_reducible refine (i1).mono ?_); rintro e w' ⟨rfl, hw⟩; obtain rfl := hw.symm))
      go_ret2
      exact ⟨_, rfl, own_empty w 3 1, below_one _ _⟩
  · rw [decide_eq_false h1] at i1
    clear h h1
    go_enter Try.func22, Try.ntmps22
    go_wp2_with (first | (go_at_call 50; (with_reducible refine (i1).mono ?_); rintro e w' ⟨rfl, hw⟩; obtain rfl := hw.symm))
    go_ret2
    exact ⟨_, rfl, own_empty w 3 1, below_one _ _⟩
end Go.Proofs.Ytgkcofjhajjjgaa
