/- The laws' walks: Bar, Power2. -/
import Derived.Test.YtipggopnchlpaaaP3
namespace Go.Proofs.Ytipggopnchlpaaa
open Go.RowKit

set_option maxHeartbeats 4000000 in
theorem walk_bar (a b : Nat) (w : World) : Calls Try.prog 7 #[Pv a b] w fun e w' => e = .returned (.bool true) ∧ Below w.heap.size w w' := by
  have hST := rStore
  have f0 := Rb.new w a b 24 rfl
  have hq := fun W => eqPair_yes a (ng b) a (ng b) W rfl rfl
  have HW := below_one w (.cells #[.float .f64 a, .float .f64 b] 24)
  go_enter Try.func7, Try.ntmps7
  go_wp2_with (first
    | (go_at_call 10; (fail_if_success have := m1); refine (toPair_any _ _ _).mono ?_; rintro e w1 ⟨rfl, hb⟩; have HB := bstep HW hb; have f1 := f0.call hb)
    | (go_at_call 19; refine (sBar_any _ _ _).mono ?_; rintro e w2 ⟨rfl, hb2⟩; have HB2 := (bstep HB hb2).alloc (bstep HB hb2).size (.cells #[.float .f64 a, .float .f64 (ng b)] 25); have m1 := Rb.new w2 a (ng b) 25 rfl; have f2 := (f1.call hb2).alloc (.cells #[.float .f64 a, .float .f64 (ng b)] 25); obtain ⟨e0, e1, _, _⟩ := f2)
    | (go_at_call 10; refine (toPair_any _ _ _).mono ?_; rintro e w3 ⟨rfl, hb3⟩; have HB3 := bstep HB2 hb3; have m2 := m1.call hb3)
    | (go_at_call 20; refine (iBar_any _ _ _).mono ?_; rintro e w4 ⟨rfl, hb4⟩; have HB4 := (bstep HB3 hb4).alloc (bstep HB3 hb4).size (.cells #[.float .f64 a, .float .f64 (ng b)] 25); obtain ⟨d0, d1, _, _⟩ := (m2.call hb4).alloc (.cells #[.float .f64 a, .float .f64 (ng b)] 25))
    | (go_at_call 12; refine (hq _).mono ?_; rintro e w5 ⟨rfl, hb5⟩))
  go_ret
  exact ⟨rfl, bstep HB4 hb5⟩

set_option maxHeartbeats 4000000 in
theorem walk_pow2 (a b : Nat) (w : World) : Calls Try.prog 8 #[Pv a b] w fun e w' => e = .returned (.bool true) ∧ Below w.heap.size w w' := by
  have f0 := Rb.new w a b 24 rfl
  have HW := below_one w (.cells #[.float .f64 a, .float .f64 b] 24)
  go_enter Try.func8, Try.ntmps8
  go_wp2_with (first
    | (go_at_call 10; (fail_if_success have := ex); refine (toPair_any _ _ _).mono ?_; rintro e w1 ⟨rfl, hb⟩; have HB := bstep HW hb; have f1 := f0.call hb)
    | (go_at_call 21; refine (sPow_any _ _ _).mono ?_; rintro e w2 ⟨x, rfl, ex, hb2⟩; have HB2 := bstep HB hb2; have f2 := f1.call hb2; obtain ⟨e0, e1, _, _⟩ := f2)
    | (go_at_call 10; refine (toPair_any _ _ _).mono ?_; rintro e w3 ⟨rfl, hb3⟩; have HB3 := bstep HB2 hb3)
    | (go_at_call 22; refine (iPow_any _ _ _).mono ?_; rintro e w4 ⟨y, rfl, ey, hb4⟩; have HB4 := bstep HB3 hb4)
    | (go_at_call 23; refine (same_yes _ _ _ (ey.trans ex.symm)).mono ?_; rintro e w5 ⟨rfl, hw⟩; obtain rfl := hw.symm))
  go_ret
  exact ⟨rfl, HB4⟩
end Go.Proofs.Ytipggopnchlpaaa
