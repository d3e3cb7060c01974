/- Signals: which lists are such. -/
import Derived.Test.YtiadfabhpagmpaaDoorB0
namespace Go.Proofs.YtiadfabhpagmpaaDoor
open Go.RowKit

/-- A sample. -/
abbrev Smp (x : Int) : Prop := -1000000000 ≤ x ∧ x ≤ 1000000000

/-- A signal. -/
abbrev Sig (n : Nat) (xs : Nat → Int) : Prop := n ≤ 512 ∧ ∀ k, k < n → Smp (xs k)

end Go.Proofs.YtiadfabhpagmpaaDoor
