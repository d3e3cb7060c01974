/- A list and a bool told. -/
import Derived.Test.YtndagpompioooaaDoorC1
namespace Go.Proofs.YtndagpompioooaaDoor
open Go.RowKit

/-- What is told: a list in memory of the call's own, and a bool. -/
def Pst (w w' : World) (e : Ending) (N : Nat) (ys : Nat → Int) (ok : Bool) : Prop := ∃ u, e = .returned (.tuple #[u, .bool ok]) ∧ w'.ownsRow w.heap.size 3 1 u N (ils ys N) ∧ Below w.heap.size w w'
end Go.Proofs.YtndagpompioooaaDoor
