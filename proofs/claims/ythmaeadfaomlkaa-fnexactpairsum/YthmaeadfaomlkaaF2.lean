/- TwoSum on both sides, and the law. -/
import Derived.Test.YthmaeadfaomlkaaF1
namespace Go.Proofs.Ythmaeadfaomlkaa
open Go.RowKit

theorem rAdd (t : TypeId) (x y : Nat) (w : World) : (binOp .add t (.float .f64 x) (.float .f64 y)).run Try.prog w = .ok (.float .f64 (fres .add w x y)) (fwor .add w x y) := run_fop .add (by simp) _ t x y w
theorem rSub (t : TypeId) (x y : Nat) (w : World) : (binOp .sub t (.float .f64 x) (.float .f64 y)).run Try.prog w = .ok (.float .f64 (fres .sub w x y)) (fwor .sub w x y) := run_fop .sub (by simp) _ t x y w
theorem rMul (t : TypeId) (x y : Nat) (w : World) : (binOp .mul t (.float .f64 x) (.float .f64 y)).run Try.prog w = .ok (.float .f64 (fres .mul w x y)) (fwor .mul w x y) := run_fop .mul (by simp) _ t x y w

/-- The error of a sum, by what its numbers stand for. -/
def cerr (a b : Option Nat) : Option Nat := cop .add (cop .sub a (cop .sub (cop .add a b) (cop .sub (cop .add a b) a))) (cop .sub b (cop .sub (cop .add a b) a))

set_option maxHeartbeats 400000 in
theorem twoSum_spec (a b : Nat) (w : World) : Calls Try.prog 18 #[.float .f64 a, .float .f64 b] w fun e w' => ∃ s r, e = .returned (.tuple #[.float .f64 s, .float .f64 r]) ∧ cn s = cop .add (cn a) (cn b) ∧ cn r = cerr (cn a) (cn b) ∧ Below w.heap.size w w' := by
  have hA := rAdd
  have hS := rSub
  go_enter Try.func18, Try.ntmps18
  go_wp2
  go_ret2
  refine ⟨_, _, rfl, cn_fres _ _ _ _, ?_, ?_⟩
  · simp only [cn_fres, cerr]
  · repeat apply below_fwor
    exact Below.refl _ _

set_option maxHeartbeats 400000 in
theorem twoSum_impl (a b : Nat) (w : World) : Calls Try.prog 19 #[.float .f64 a, .float .f64 b] w fun e w' => ∃ s r, e = .returned (.tuple #[.float .f64 s, .float .f64 r]) ∧ cn s = cop .add (cn a) (cn b) ∧ cn r = cerr (cn a) (cn b) ∧ Below w.heap.size w w' := by
  have hA := rAdd
  have hS := rSub
  go_enter Try.func19, Try.ntmps19
  go_wp2
  go_ret2
  refine ⟨_, _, rfl, cn_fres _ _ _ _, ?_, ?_⟩
  · simp only [cn_fres, cerr]
  · repeat apply below_fwor
    exact Below.refl _ _

theorem bstep {w w1 w2 : World} (h1 : Below w.heap.size w w1) (h2 : Below w1.heap.size w1 w2) : Below w.heap.size w w2 := h1.trans (h2.mono h1.size)

set_option maxHeartbeats 400000 in
theorem walk_two (a b : Nat) (w : World) : Calls Try.prog 6 #[.float .f64 a, .float .f64 b] w fun e w' => e = .returned (.bool true) ∧ Below w.heap.size w w' := by
  go_enter Try.func6, Try.ntmps6
  go_wp2_with (first
    | (go_at_call 18; refine (twoSum_spec _ _ _).mono ?_; rintro e w1 ⟨s, r, rfl, hs, hr, hb⟩; have HS : Hid _ := hs; have HR : Hid _ := hr; clear hs hr)
    | (go_at_call 19; refine (twoSum_impl _ _ _).mono ?_; rintro e w2 ⟨s2, r2, rfl, hs2, hr2, hb2⟩; have HS2 : Hid _ := hs2; have HR2 : Hid _ := hr2; clear hs2 hr2)
    | (go_at_call 12; (first | (with_reducible refine (same_yes s2 s _ (HS2.out.trans HS.out.symm)).mono ?_) | (with_reducible refine (same_yes r2 r _ (HR2.out.trans HR.out.symm)).mono ?_)); rintro e w3 ⟨rfl, hw⟩; obtain rfl := hw.symm))
  go_ret
  exact ⟨rfl, bstep hb hb2⟩
end Go.Proofs.Ythmaeadfaomlkaa
