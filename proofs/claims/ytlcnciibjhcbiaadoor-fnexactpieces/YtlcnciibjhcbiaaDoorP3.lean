/- Pairs: the program's difference and product, Bar, Power2, and how pairs are held against each other. -/
import Derived.Test.YtlcnciibjhcbiaaDoorP2
namespace Go.Proofs.YtlcnciibjhcbiaaDoor
open Go.RowKit

/-- The sign turned. -/
abbrev ng (b : Nat) : Nat := Op.negFloat .f64 b
theorem rNeg (b : Nat) (w : World) : (Op.unary .neg (.float .f64 b)).run Tryd.prog w = .ok (.float .f64 (ng b)) w := rfl

/-- The power of a pair. -/
def cpw (a b : Option Nat) : Option Nat := cop .add (cop .mul a a) (cop .mul b b)

set_option maxHeartbeats 1000000 in
/-- Two pairs that are the same: eqPair says so. -/
theorem eqPair_yes (a b c d : Nat) (w : World) (h1 : cn a = cn c) (h2 : cn b = cn d) : Calls Tryd.prog 35 #[Pv a b, Pv c d] w fun e w' => e = .returned (.bool true) ∧ Below w.heap.size w w' := by
  have e1 := fun w => same_yes a c w h1
  have e2 := fun w => same_yes b d w h2
  clear h1 h2
  go_enter Tryd.func35, Tryd.ntmps35
  go_wp2_with (go_at_call 50; (first | (with_reducible refine (e1 _).mono ?_) | (with_reducible refine (e2 _).mono ?_)); rintro e w1 ⟨rfl, hw⟩; obtain rfl := hw.symm)
  go_ret
  refine ⟨rfl, ?_⟩
  repeat first | exact Below.refl _ _ | refine Below.alloc ?_ (by simp; try omega) _

end Go.Proofs.YtlcnciibjhcbiaaDoor
