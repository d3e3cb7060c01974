/- LiftOnce: the program, kind 2. -/
import Derived.Test.YtncmejmdkonnpaaLG
namespace Go.Proofs.Ytncmejmdkonnpaa
open Go.RowKit

end Go.Proofs.Ytncmejmdkonnpaa
