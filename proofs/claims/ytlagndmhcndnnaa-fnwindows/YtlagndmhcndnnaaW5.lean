/- Tone. -/
import Derived.Test.YtlagndmhcndnnaaW4
import Derived.Test.YtlagndmhcndnnaaW6
namespace Go.Proofs.Ytlagndmhcndnnaa
open Go.RowKit

/-- What is told: a list in memory of the call's own, and a bool. -/
def Pst (w w' : World) (e : Ending) (N : Nat) (ys : Nat → Int) (ok : Bool) : Prop := ∃ u, e = .returned (.tuple #[u, .bool ok]) ∧ w'.ownsRow w.heap.size 3 1 u N (ils ys N) ∧ Below w.heap.size w w'

/-- Good for Tone. -/
abbrev GT (st ph sz n : Int) : Prop := (0 ≤ n ∧ n ≤ 512) ∧ (0 ≤ sz ∧ sz ≤ 1000000000) ∧ Smp st ∧ Smp ph

/-- A sample of a tone. -/
def tnv (st ph sz : Int) (k : Nat) : Int := rdV (sz * cosv (ph + k * st)) 1073741824

end Go.Proofs.Ytlagndmhcndnnaa
