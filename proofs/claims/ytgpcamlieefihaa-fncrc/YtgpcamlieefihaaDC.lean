/- Drawn bytes. -/
import Derived.Test.YtgpcamlieefihaaBY
import Derived.Test.YtgpcamlieefihaaD4
import Derived.Test.YtgpcamlieefihaaCM
namespace Go.Proofs.Ytgpcamlieefihaa
open Go.RowKit

theorem bls_one (xs : Nat → Int) (n : Nat) : ∀ u ∈ bls xs n, u.oneCell' = true := by
  intro u hu
  obtain ⟨k, _, rfl⟩ := List.mem_map.1 hu
  rfl

theorem bls_app (f : Nat → Int) (k : Nat) (x : Int) : bls f k ++ [.int .u8 x] = bls (fun i => if i = k then x else f i) (k + 1) := by
  rw [bls_snoc]
  congr 1
  · apply bls_congr
    intro i hi
    simp [show ¬ i = k by omega]
  · simp

theorem byt_app {k : Nat} {f : Nat → Int} (h : Byt k f) {x : Int} (h0 : 0 ≤ x) (h1 : x < 256) : Byt (k + 1) (fun i => if i = k then x else f i) := by
  intro i hi
  by_cases e : i = k
  · simp [e]; omega
  · simp [e]; exact h i (by omega)

theorem made_bls (n : Nat) : (madeCells (Value.int .u8 0).cells (n * 1)).toList = bls (fun _ => 0) n := by
  have e : (Value.int .u8 0).cells = #[.int .u8 0] := by simp [Value.cells]
  rw [e]
  apply List.ext_getElem
  · simp [madeCells, bls]
  · intro i h1 h2
    simp [madeCells, bls, Nat.mod_one]

/-- A list of bytes that is not empty put behind an own row. -/
theorem wpList_appb {w : World} {ops : Array Oper} {rest : List Oper} {o : Oper} {a : Act} {Q : Exit → Act → World → Prop} (hgd : o.guard = none) (s x : Operand)
    (ho : o.op = .call { callee := .builtin .append, args := #[s, x], argTypes := #[22, 22] }) (base : Nat) (v xv : Value) (n m : Nat) (xs : List Value) (ys : Nat → Int) (hs : a.eval s = v) (hx : a.eval x = xv)
    (hown : w.ownsRow base 5 1 v n xs) (hsrc : Bl w xv m ys) (hm : 0 < m) (hnm : n + m ≤ 1048576) (hbase : base ≤ w.heap.size)
    (h : ∀ v' w', w'.ownsRow base 5 1 v' (n + m) (xs ++ bls ys m) → w.grownBy w' v.ownBlock → wpList Try.prog ops Q rest (a.put o.dst v') w') : wpList Try.prog ops Q (o :: rest) a w := by
  obtain ⟨i0, hi, hz0, hz1, hz2⟩ := info_parts Try.info5
  obtain ⟨ao, cap, rfl, hcap, hc⟩ := hsrc
  obtain ⟨b, off, rfl, hlt, hcell⟩ := hc hm
  refine wpList_append_own _ hgd s x 22 ho base 5 i0 (.int .u8 0) 1 1 Try.underlying22 hi hz0 hz1 hz2 rfl (by decide) v n xs hs hown ⟨b, off, none⟩ m cap (bls ys m) hx (by rw [bls_length, Nat.mul_one]) (fun j u hu => ?_) (bls_one _ _) (by unfold maxLen; omega) (by omega) hbase (fun v' w' h2 h3 _ => h v' w' h2 h3)
  by_cases hj : j < m
  · rw [bls_get hj] at hu
    have h6 := (hcell j hj).trans hu
    unfold Addr.add
    split
    · rename_i h7
      obtain rfl : j = 0 := by simpa using h7
      exact h6
    · exact h6
  · rw [List.getElem?_eq_none (by rw [bls_length]; omega)] at hu
    cases hu

theorem bone_own (W : World) (x : Int) : (W.alloc (.cells #[.int .u8 x] 5)).ownsRow W.heap.size 5 1 (.slice (some ⟨W.heap.size, 0, none⟩) 1 1) 1 [.int .u8 x] :=
  World.ownsRow_lit (base := W.heap.size) (e := 5) (size := 1) W #[.int .u8 x] 1 (Nat.le_refl _) (by unfold maxLen; omega) rfl

theorem own_slice {w : World} {B s n : Nat} {e : TypeId} {v : Value} {xs : List Value} (h : w.ownsRow B e s v n xs) : ∃ al cl, v = .slice al n cl := by
  rcases h.2 with ⟨rfl, rfl⟩ | ⟨g, c, cur, rfl, _⟩
  · exact ⟨_, _, rfl⟩
  · exact ⟨_, _, rfl⟩

set_option maxHeartbeats 2000000 in
theorem dby_x {w : World} {c : Nat} {a : Option Addr} {len cap : Nat} (h : Cu w c a len cap) (m : Nat) (hm : m ≤ 1000) :
    Calls Try.prog 11 #[.pointer (some ⟨c, 0, none⟩), .int .i64 (m : Int)] w fun e w' => ∃ u ys, e = .returned u ∧ Byt m ys ∧ w'.ownsRow w.heap.size 5 1 u m (bls ys m) ∧ Cu w' c a len cap ∧ Keep c w w' := by
  obtain ⟨i0, hi, hz0, hz1, hz2⟩ := info_parts Try.info5
  have HC : Hid (Cu w c a len cap) := h
  have hcl := h.lt
  have HD : Hid (Cu (w.alloc (.cells #[] 5)) c a len cap) := h.call (below_one _ _)
  clear h
  go_enter Try.func11, Try.ntmps11
  go_wp2
  go_loopw [5, 6] (fun o i wr => ∃ k : Nat, i = .int .i64 (k : Int) ∧ k ≤ m ∧ Hid ((∃ ys, Byt k ys ∧ wr.ownsRow w.heap.size 5 1 o k (bls ys k)) ∧ Cu wr c a len cap ∧ Keep c w wr)) (fun _ i _ => m - (intOf i).toNat)
  case atStart => exact ⟨0, rfl, by omega, ⟨fun _ => 0, fun _ h => by omega, own_empty w 5 1⟩, HD.out, (Keep.refl _ _).call (below_one _ _)⟩
  case round =>
    obtain ⟨k, rfl, hk, hcur⟩ := hrel
    obtain ⟨ys, hby, ho⟩ := hcur.out.1
    have HB : Hid (Byt k ys) := hby
    have HO : Hid _ := ho
    clear ho hby
    by_cases h1 : k < m
    · go_wp2_with (first | (go_at_call 13; refine (byte_x hcur.out.2.1).mono ?_; rintro e w2 ⟨x2, hx0, hx1, rfl, hc, hk2⟩; have ew : IntKind.u8.wrap x2 = x2 := by { rw [IntKind.wrap_u8']; omega }; have hb3 := below_one w2 (.cells #[.int .u8 x2] 5); have HO3 := own_below (own_keep HO.out hk2 hcl) hb3; have K2 : Hid (Keep c w (w2.alloc (.cells #[.int .u8 x2] 5))) := (hcur.out.2.2.trans hk2).call hb3; have HC3 : Hid (Cu (w2.alloc (.cells #[.int .u8 x2] 5)) c a len cap) := hc.call hb3; have hs3 := K2.out.size; clear hc hk2 hb3) | (at_builtin; refine wpList_append_own _ rfl _ _ 22 rfl w.heap.size 5 i0 (.int .u8 0) 1 1 Try.underlying22 hi hz0 hz1 hz2 rfl (by decide) _ _ _ rfl HO3 ⟨w2.heap.size, 0, none⟩ 1 1 [.int .u8 x2] rfl rfl (one_new _ _ _) (by simp [Value.oneCell']) (by unfold maxLen; omega) (by omega) hs3 ?_))
      intro v' w4 hown' hgrow _
      have HB4 : Hid (Below w.heap.size (w2.alloc (.cells #[.int .u8 x2] 5)) w4) := grown_below (Below.refl w.heap.size _) hs3 HO3 hgrow
      rw [bls_app] at hown'
      have HO4 : Hid _ := hown'
      have HY : Hid (Byt (k + 1) (fun i => if i = k then x2 else ys i)) := byt_app HB.out hx0 hx1
      clear hown' hgrow HO3
      go_wp2
      go_roundw
      case rel => exact ⟨k + 1, by go_num, by omega, ⟨_, HY.out, HO4.out⟩, HC.out.grow HC3.out K2.out HB4.out, K2.out.below HB4.out⟩
      case measure => simp [intOf]; omega
    · obtain rfl : m = k := by omega
      go_wp2
      go_ret
      exact ⟨_, ys, rfl, HB.out, HO.out, hcur.out.2.1, hcur.out.2.2⟩

set_option maxHeartbeats 4000000 in
theorem dcrc_x {w : World} {a : Option Addr} {len cap : Nat} (hr : Row w a len) (hl : len ≤ 1048576) :
    Calls Try.prog 5 #[.slice a len cap] w fun e w' => ∃ u n ys, e = .returned u ∧ n ≤ 65537 ∧ Byt n ys ∧ w'.ownsRow w.heap.size 5 1 u n (bls ys n) ∧ Below w.heap.size w w' := by
  obtain ⟨i0, hi, hz0, hz1, hz2⟩ := info_parts Try.info5
  have HR : Hid (Row w a len) := hr
  clear hr
  obtain ⟨c, hcd⟩ : ∃ c, w.heap.size = c := ⟨_, rfl⟩
  have HN : Hid (Calls Try.prog 8 #[.slice a len cap] w fun e w' => e = .returned (.pointer (some ⟨c, 0, none⟩)) ∧ Cu w' c a len cap ∧ Below w.heap.size w w') := by have := new_x (cap := cap) HR.out (by omega); rw [← hcd]; exact this
  go_enter Try.func5, Try.ntmps5
  go_wp2_with (first
    | (go_at_call 8; refine HN.out.mono ?_; rintro e w1 ⟨rfl, hc, hb⟩; have HC : Hid (Cu w1 c a len cap) := hc; have B1 : Hid (Below w.heap.size w w1) := hb; clear hc hb)
    | (go_at_call 9; refine (once_x HC.out 80).mono ?_; rintro e w2 ⟨x2, rfl, hc, hk⟩; have HC2 : Hid (Cu w2 c a len cap) := hc; have K2 : Hid (Keep c w1 w2) := hk; clear hc hk; cases x2)
    | (go_at_call 12; refine (size_x a len cap 40 hl).mono ?_; rintro e w' ⟨sz, rfl, hs0, hs1, hs2, hw⟩; have hs3 := hs2 (by omega); obtain rfl := hw.symm)
    | (go_at_call 10; refine (below_x HC2.out (2 * sz)).mono ?_; rintro e w3 ⟨x3, hx0, _, hx1, rfl, hc, hk⟩; have hx2 := hx1 (by omega); obtain ⟨m, rfl⟩ := Int.eq_ofNat_of_zero_le hx0; have HC3 : Hid (Cu w3 c a len cap) := hc; have K3 : Hid (Keep c w1 w3) := K2.out.trans hk; clear hc hk hx1)
    | (go_at_call 11; refine (dby_x HC3.out m (by omega)).mono ?_; rintro e w4 ⟨u, ys, rfl, hby, ho, hc, hk⟩; have HO4 : Hid (w4.ownsRow w3.heap.size 5 1 u m (bls ys m)) := ho; have HY : Hid (Byt m ys) := hby; have K4 : Hid (Keep c w1 w4) := K3.out.trans hk; clear ho hc hk hby))
  · go_ret
    exact ⟨_, m, ys, rfl, by omega, HY.out, own_base HO4.out (Nat.le_trans B1.out.size K3.out.size), Below.keep B1.out K4.out (Nat.le_of_eq hcd)⟩
  · go_wp2_with (first
      | (go_at_call 10; refine (below_x HC2.out 2).mono ?_; rintro e w6 ⟨x6, h60, _, h62, rfl, hc, hk⟩; have h63 := h62 (by omega); obtain ⟨t, rfl⟩ := Int.eq_ofNat_of_zero_le h60; have K6 : Hid (Keep c w1 w6) := K2.out.trans hk; have S6 : w.heap.size ≤ w6.heap.size := Nat.le_trans B1.out.size K6.out.size; clear hc hk h62)
      | (at_make; refine wpList_make_full _ rfl _ _ 22 rfl w.heap.size 5 i0 (.int .u8 0) 1 Try.underlying22 hi hz0 hz1 .i64 .i64 _ _ (65536 + t) rfl rfl (by omega) (by omega) (by rw [hz2]; omega) (by unfold maxLen; omega) S6 ?_; intro w7 hown hgrow; have HB7 : Hid (Below w6.heap.size w6 w7) := (Below.refl _ _).grown hgrow (Nat.le_refl _) (fun _ h => by cases h); rw [made_bls] at hown; have HI7 : Hid (w7.ownsRow w.heap.size 5 1 (.slice (some ⟨w6.heap.size, 0, none⟩) (65536 + t) (65536 + t)) (65536 + t) (bls (fun _ => 0) (65536 + t))) := hown; clear hown hgrow))
    go_ret
    exact ⟨_, 65536 + t, fun _ => 0, rfl, by omega, fun _ _ => ⟨Int.le_refl 0, (by decide : (0 : Int) < 256)⟩, HI7.out, bstep (Below.keep B1.out K6.out (Nat.le_of_eq hcd)) HB7.out⟩
end Go.Proofs.Ytgpcamlieefihaa
