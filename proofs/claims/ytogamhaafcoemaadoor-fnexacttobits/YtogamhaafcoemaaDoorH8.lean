/- The program's ToBits, and the law. -/
import Derived.Test.YtogamhaafcoemaaDoorH7
import Derived.Test.YtogamhaafcoemaaDoorH4
namespace Go.Proofs.YtogamhaafcoemaaDoor
open Go.RowKit

theorem isNaN_any (x : Nat) (w : World) : Calls Tryd.prog 27 #[.float .f64 x] w fun e w' => e = .returned (.bool (Ieee.double.read x).isNaN) ∧ w' = w := by
  cases h : (Ieee.double.read x).isNaN with
  | true =>
    have o1 := order_nan h
    clear h
    go_enter Tryd.func27, Tryd.ntmps27
    go_wp2
    go_ret
    exact ⟨rfl, rfl⟩
  | false =>
    have o1 := order_same h
    clear h
    go_enter Tryd.func27, Tryd.ntmps27
    go_wp2
    go_ret
    exact ⟨rfl, rfl⟩

theorem run_bits (x : Nat) (w : World) : (callFunc 28 #[.float .f64 x]).run Tryd.prog w = .ok (.value (.int .u64 (x : Nat))) w := by
  rw [run_callFunc_extern Tryd.func28 (by kernel_rfl) (by kernel_rfl) (by kernel_rfl) (e := Extern.MathFloatBits.float64bits) (by kernel_rfl)]
  rfl

set_option maxHeartbeats 1000000 in
theorem to_impl (x : Nat) (w : World) (hs : Shp w) : Calls Tryd.prog 10 #[.float .f64 x] w fun e w' => e = .returned (.int .u64 (tb x : Nat)) ∧ Below w.heap.size w w' := by
  have hN := isNaN_any x
  have hP := fun w => plainNan_any dbl w
  have hF := run_bits
  obtain ⟨c0, c1, c2, c3, c4, c5, c6, c7, c8, c9, c10, c11⟩ := hs
  cases h : (Ieee.double.read x).isNaN with
  | true =>
    rw [h] at hN
    have ht : tb x = 9221120237041090560 := by simp [tb, h]
    rw [ht]
    clear ht h
    go_enter Tryd.func10, Tryd.ntmps10
    go_wp2_with (first
      | (go_at_call 27; refine (hN _).mono ?_; rintro e w' ⟨rfl, hw⟩; obtain rfl := hw.symm)
      | (go_at_call 21; refine (hP _).mono ?_; rintro e w2 ⟨rfl, hb2⟩))
    go_ret
    exact ⟨rfl, hb2⟩
  | false =>
    rw [h] at hN
    have ht : tb x = x := by simp [tb, h]
    rw [ht]
    clear ht h
    go_enter Tryd.func10, Tryd.ntmps10
    go_wp2_with (first
      | (go_at_call 27; refine (hN _).mono ?_; rintro e w' ⟨rfl, hw⟩; obtain rfl := hw.symm))
    go_ret
    exact ⟨rfl, Below.refl _ _⟩

set_option maxHeartbeats 1000000 in
theorem walk_to (x : Nat) (w : World) (hs : Shp w) (h1 : x < 18446744073709551616) : Calls Tryd.prog 4 #[.float .f64 x] w fun e w' => e = .returned (.bool true) ∧ Below w.heap.size w w' := by
  have h1 := to_spec x h1 w
  have h2 := fun W (hb : Below w.heap.size w W) => to_impl x W (shp_below hs (shp_pos hs) hb)
  go_enter Tryd.func4, Tryd.ntmps4
  go_wp2_with (first
    | (go_at_call 9; refine h1.mono ?_; rintro e w1 ⟨rfl, hb⟩)
    | (go_at_call 10; refine (h2 _ hb).mono ?_; rintro e w2 ⟨rfl, hb2⟩))
  go_ret
  exact ⟨rfl, bstep hb hb2⟩
end Go.Proofs.YtogamhaafcoemaaDoor
