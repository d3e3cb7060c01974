/- PolyPair: the model's. -/
import Derived.Test.YtbogkkkfbimacaaL1
import Derived.Test.YtbogkkkfbimacaaW1
namespace Go.Proofs.Ytbogkkkfbimacaa
open Go.RowKit

/-- The polynomial at a place: behind j steps, the highest power first. -/
def cpoly (xs ys : Nat → Nat) (n : Nat) (x1 x2 : Option Nat) : Nat → Option Nat × Option Nat
  | 0 => (cn (xs (n - 1)), cn (ys (n - 1)))
  | j + 1 => (cop .add (cre (cpoly xs ys n x1 x2 j).1 (cpoly xs ys n x1 x2 j).2 x1 x2) (cn (xs (n - 2 - j))), cop .add (cim (cpoly xs ys n x1 x2 j).1 (cpoly xs ys n x1 x2 j).2 x1 x2) (cn (ys (n - 2 - j))))


end Go.Proofs.Ytbogkkkfbimacaa
