/- The program's ToBits, and the law. -/
import Derived.Test.YtgmahlakiacimaaDoorH7
import Derived.Test.YtgmahlakiacimaaDoorH4
namespace Go.Proofs.YtgmahlakiacimaaDoor
open Go.RowKit

theorem isNaN_any (x : Nat) (w : World) : Calls Tryd.prog 41 #[.float .f64 x] w fun e w' => e = .returned (.bool (Ieee.double.read x).isNaN) ∧ w' = w := by
  cases h : (Ieee.double.read x).isNaN with
  | true =>
    have o1 := order_nan h
    clear h
    go_enter Tryd.func41, Tryd.ntmps41
    go_wp2
    go_ret
    exact ⟨rfl, rfl⟩
  | false =>
    have o1 := order_same h
    clear h
    go_enter Tryd.func41, Tryd.ntmps41
    go_wp2
    go_ret
    exact ⟨rfl, rfl⟩

theorem run_bits (x : Nat) (w : World) : (callFunc 42 #[.float .f64 x]).run Tryd.prog w = .ok (.value (.int .u64 (x : Nat))) w := by
  rw [run_callFunc_extern Tryd.func42 (by kernel_rfl) (by kernel_rfl) (by kernel_rfl) (e := Extern.MathFloatBits.float64bits) (by kernel_rfl)]
  rfl

set_option maxRecDepth 20000 in
set_option maxHeartbeats 1000000 in
theorem to_impl (x : Nat) (w : World) (hs : Shp w) : Calls Tryd.prog 13 #[.float .f64 x] w fun e w' => e = .returned (.int .u64 (tb x : Nat)) ∧ Below w.heap.size w w' := by
  have hN := isNaN_any x
  have hP := fun w => plainNan_any dbl w
  have hF := run_bits
  obtain ⟨c0, c1, c2, c3, c4, c5, c6, c7, c8, c9, c10, c11⟩ := hs
  cases h : (Ieee.double.read x).isNaN with
  | true =>
    rw [h] at hN
    have ht : tb x = 9221120237041090560 := by simp [tb, h]
    rw [ht]
    clear ht h
    go_enter Tryd.func13, Tryd.ntmps13
    go_wp2_with (first
      | (go_at_call 41; refine (hN _).mono ?_; rintro e w' ⟨rfl, hw⟩; obtain rfl := hw.symm)
      | (go_at_call 36; refine (hP _).mono ?_; rintro e w2 ⟨rfl, hb2⟩))
    go_ret
    exact ⟨rfl, hb2⟩
  | false =>
    rw [h] at hN
    have ht : tb x = x := by simp [tb, h]
    rw [ht]
    clear ht h
    go_enter Tryd.func13, Tryd.ntmps13
    go_wp2_with (first
      | (go_at_call 41; refine (hN _).mono ?_; rintro e w' ⟨rfl, hw⟩; obtain rfl := hw.symm))
    go_ret
    exact ⟨rfl, Below.refl _ _⟩

end Go.Proofs.YtgmahlakiacimaaDoor
