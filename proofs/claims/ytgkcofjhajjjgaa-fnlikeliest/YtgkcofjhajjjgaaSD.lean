/- Spread: refusals; all memories. -/
import Derived.Test.YtgkcofjhajjjgaaSC
namespace Go.Proofs.Ytgkcofjhajjjgaa
open Go.RowKit

set_option maxHeartbeats 2000000 in
theorem sSpr_bad {w : World} {v : Value} {n : Nat} {xs : Nat → Int} (hv : Il w v n xs) (hn9 : n ≤ 1048576) {m a b : Int} (h : ¬ (Cd m a b ∧ Bts n xs ∧ n ≤ 120)) (ys : Nat → Int) :
    Calls Try.prog 23 #[.int .i64 m, .int .i64 a, .int .i64 b, v] w fun e w' => Pst w w' e 0 ys false := by
  have i1 := sCoder_any m a b
  have i2 := sBits_any (hv.below (below_one w (.cells #[] 3))) hn9
  obtain ⟨ao, cap, rfl, hcap, hc⟩ := hv
  clear hc
  by_cases c1 : Cd m a b
  · rw [decide_eq_true c1] at i1
    by_cases c2 : Bts n xs
    · rw [decide_eq_true c2] at i2
      have c3 : ¬ (n ≤ 120) := fun c3 => h ⟨c1, c2, c3⟩
      clear h c1 c2
      go_enter Try.func23, Try.ntmps23
      go_wp2_with (first | (go_at_call 44; (with_reducible refine (i1 _).mono ?_); rintro e w' ⟨rfl, hw⟩; obtain rfl := hw.symm) | (go_at_call 53; (with_reducible refine (i2).mono ?_); rintro e w' ⟨rfl, hw⟩; obtain rfl := hw.symm))
      go_ret2
      exact ⟨_, rfl, own_empty w 3 1, below_one _ _⟩
    · rw [decide_eq_false c2] at i2
      clear h c1 c2
      go_enter Try.func23, Try.ntmps23
      go_wp2_with (first | (go_at_call 44; (with_reducible refine (i1 _).mono ?_); rintro e w' ⟨rfl, hw⟩; obtain rfl := hw.symm) | (go_at_call 53; (with_reducible refine (i2).mono ?_); rintro e w' ⟨rfl, hw⟩; obtain rfl := hw.symm))
      go_ret2
      exact ⟨_, rfl, own_empty w 3 1, below_one _ _⟩
  · rw [decide_eq_false c1] at i1
    clear h c1
    clear i2
    go_enter Try.func23, Try.ntmps23
    go_wp2_with (first | (go_at_call 44; (with_reducible refine (i1 _).mono ?_); rintro e w' ⟨rfl, hw⟩; obtain rfl := hw.symm))
    go_ret2
    exact ⟨_, rfl, own_empty w 3 1, below_one _ _⟩
set_option maxHeartbeats 4000000 in
theorem iSpr_bad {w : World} {v : Value} {n : Nat} {xs : Nat → Int} (hv : Il w v n xs) (hn9 : n ≤ 1048576) {m a b : Int} (h : ¬ (Cd m a b ∧ Bts n xs ∧ n ≤ 120)) (ys : Nat → Int) : Calls Try.prog 11 #[.int .i64 m, .int .i64 a, .int .i64 b, v] w fun e w' => Pst w w' e 0 ys false := by
  have i2 := one_any (m := m) (a := a) (b := b)
  have OW : Hid ((w.alloc (.cells #[] 3)).ownsRow w.heap.size 3 1 (.slice (some ⟨w.heap.size, 0, none⟩) 0 0) 0 (ils ys 0)) := own_empty w 3 1
  have BL : Hid (Below w.heap.size w (w.alloc (.cells #[] 3))) := below_one _ _
  have HV : Hid (Il w v n xs) := hv
  obtain ⟨ao, cap, rfl, hcap, hc⟩ := hv
  clear hc
  by_cases c1 : Cd m a b
  · rw [decide_eq_true c1] at i2
    by_cases c2 : Bts n xs
    · have c3 : ¬ n ≤ 120 := fun c3 => h ⟨c1, c2, c3⟩
      have HT : Hid (Bts n xs) := c2
      clear h c1 c2
      go_enter Try.func11, Try.ntmps11
      go_wp2_with (first | (go_at_call 31; (with_reducible refine (i2 _).mono ?_); rintro e w3 ⟨rfl, hb⟩; have hb2 := bstep (below_one (w.alloc (.cells #[] 3)) (.cells #[.int .i64 m, .int .i64 a, .int .i64 b] 48)) hb; have OW3 : Hid (w3.ownsRow w.heap.size 3 1 (.slice (some ⟨w.heap.size, 0, none⟩) 0 0) 0 (ils ys 0)) := own_below OW.out hb2; have BL3 : Hid (Below w.heap.size w w3) := bstep BL.out hb2; have i1 := iBits_any (HV.out.below BL3.out) hn9; rw [decide_eq_true HT.out] at i1; clear hb hb2 OW BL) | (go_at_call 32; (with_reducible refine (i1).mono ?_); rintro e w' ⟨rfl, hw⟩; obtain rfl := hw.symm))
      go_ret2
      exact ⟨_, rfl, OW3.out, BL3.out⟩
    · have HT : Hid (¬ Bts n xs) := c2
      clear h c1 c2
      go_enter Try.func11, Try.ntmps11
      go_wp2_with (first | (go_at_call 31; (with_reducible refine (i2 _).mono ?_); rintro e w3 ⟨rfl, hb⟩; have hb2 := bstep (below_one (w.alloc (.cells #[] 3)) (.cells #[.int .i64 m, .int .i64 a, .int .i64 b] 48)) hb; have OW3 : Hid (w3.ownsRow w.heap.size 3 1 (.slice (some ⟨w.heap.size, 0, none⟩) 0 0) 0 (ils ys 0)) := own_below OW.out hb2; have BL3 : Hid (Below w.heap.size w w3) := bstep BL.out hb2; have i1 := iBits_any (HV.out.below BL3.out) hn9; rw [decide_eq_false HT.out] at i1; clear hb hb2 OW BL) | (go_at_call 32; (with_reducible refine (i1).mono ?_); rintro e w' ⟨rfl, hw⟩; obtain rfl := hw.symm))
      go_ret2
      exact ⟨_, rfl, OW3.out, BL3.out⟩
  · rw [decide_eq_false c1] at i2
    clear h c1
    go_enter Try.func11, Try.ntmps11
    go_wp2_with (first | (go_at_call 31; (with_reducible refine (i2 _).mono ?_); rintro e w3 ⟨rfl, hb⟩; have hb2 := bstep (below_one (w.alloc (.cells #[] 3)) (.cells #[.int .i64 m, .int .i64 a, .int .i64 b] 48)) hb; have OW3 : Hid (w3.ownsRow w.heap.size 3 1 (.slice (some ⟨w.heap.size, 0, none⟩) 0 0) 0 (ils ys 0)) := own_below OW.out hb2; have BL3 : Hid (Below w.heap.size w w3) := bstep BL.out hb2;  clear hb hb2 OW BL))
    go_ret2
    exact ⟨_, rfl, OW3.out, BL3.out⟩

theorem sSpr_good {w : World} {v : Value} {n : Nat} {xs : Nat → Int} (hv : Il w v n xs) (h : Bts n xs) (hn : n ≤ 120) {m : Int} {a b : Nat} (hab : Cd m a b) :
    Calls Try.prog 23 #[.int .i64 m, .int .i64 (a : Int), .int .i64 (b : Int), v] w fun e w' => Pst w w' e (2 * (n + m.toNat)) (spd m.toNat a b (ub n xs)) true := by
  rcases six hab.1 with rfl | rfl | rfl | rfl | rfl | rfl
  · exact sSpr_1 hv h hn hab
  · exact sSpr_2 hv h hn hab
  · exact sSpr_3 hv h hn hab
  · exact sSpr_4 hv h hn hab
  · exact sSpr_5 hv h hn hab
  · exact sSpr_6 hv h hn hab
end Go.Proofs.Ytgkcofjhajjjgaa
