/- A list of ints out of what an argument reads as. -/
import Derived.Test.YtlcfcdpgggocnaaB0
import Derived.ProofKit
import Derived.OpenShut
namespace Go.Proofs.Ytlcfcdpgggocnaa
open Go.ChangeShapes Go.WideShapes Go.ChangeAt Go.WideMaps Go.WideElems Go.RowKit

theorem own : ownKnob Try.prog.godebug = none := by kernel_rfl
theorem laidOut : laidOutB Try.prog = true := by kernel_rfl

end Go.Proofs.Ytlcfcdpgggocnaa
