/- BitsOk: the law. -/
import Derived.Test.YtladmhkndiakpaaBT
namespace Go.Proofs.Ytladmhkndiakpaa
open Go.RowKit

set_option maxHeartbeats 4000000 in
theorem walk_bits {w : World} {v : Value} {n : Nat} {xs : Nat → Int} (hv : Il w v n xs) (hn : n ≤ 9223372036854775807) : Calls Try.prog 3 #[v] w fun e w' => e = .returned (.bool true) ∧ Below w.heap.size w w' := by
  by_cases h : n ≤ 1048576
  · have FV : Hid (Il w v n xs) := hv
    obtain ⟨ao, cap, rfl, hcap, hc⟩ := hv
    clear hc
    obtain ⟨d, hd⟩ : ∃ d, d = decide (Bts n xs) := ⟨_, rfl⟩
    have HS : Hid (∀ W u, Il W u n xs → Calls Try.prog 6 #[u] W fun e w' => e = .returned (.bool d) ∧ w' = W) := fun W u hu => by rw [hd]; exact sBits_any hu h
    have HI : Hid (∀ W u, Il W u n xs → Calls Try.prog 8 #[u] W fun e w' => e = .returned (.bool d) ∧ w' = W) := fun W u hu => by rw [hd]; exact iBits_any hu h
    clear hd
    go_enter Try.func3, Try.ntmps3
    go_wp2_with (first
      | (go_at_call 7; (fail_if_success have := M1); refine (copy_own FV.out h).mono ?_; rintro e w1 ⟨hb1, v1, rfl, hf1, _⟩; have M1 : Hid True := trivial; have F1 : Hid (Il w1 v1 n xs) := hf1; have B1 : Hid (Below w.heap.size w w1) := hb1; clear hf1 hb1)
      | (go_at_call 6; refine (HS.out _ _ F1.out).mono ?_; rintro e w' ⟨rfl, hw⟩; obtain rfl := hw.symm; have M2 : Hid True := trivial)
      | (go_at_call 7; have Z := M2; (fail_if_success have := M3); refine (copy_own (Il.below FV.out B1.out) h).mono ?_; rintro e w3 ⟨hb3, x0, rfl, hf3, _⟩; have M3 : Hid True := trivial; have FX : Hid (Il w3 x0 n xs) := hf3; have B3 : Hid (Below w.heap.size w w3) := bstep B1.out hb3; clear hf3 hb3)
      | (go_at_call 8; refine (HI.out _ _ FX.out).mono ?_; rintro e w' ⟨rfl, hw⟩; obtain rfl := hw.symm; have M4 : Hid True := trivial)
      | (go_at_call 7; have Z := M4; (fail_if_success have := M5); refine (copy_own (Il.below FV.out B3.out) h).mono ?_; rintro e w5 ⟨hb5, y0, rfl, hf5, _⟩; have M5 : Hid True := trivial; have FY : Hid (Il w5 y0 n xs) := hf5; have FX5 : Hid (Il w5 x0 n xs) := Il.below FX.out hb5; have B5 : Hid (Below w.heap.size w w5) := bstep B3.out hb5; clear hf5 hb5)
      | (go_at_call 9; refine (eq_yes FX5.out FY.out h).mono ?_; rintro e w6 ⟨rfl, hb6⟩))
    go_ret
    exact ⟨rfl, bstep B5.out hb6⟩
  · obtain ⟨ao, cap, rfl, hcap, hc⟩ := hv
    clear hc
    go_enter Try.func3, Try.ntmps3
    go_wp2
    go_ret
    exact ⟨rfl, Below.refl _ _⟩
end Go.Proofs.Ytladmhkndiakpaa
