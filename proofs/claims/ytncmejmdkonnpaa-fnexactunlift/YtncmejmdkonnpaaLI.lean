/- LiftOnce: the program, kind 3. -/
import Derived.Test.YtncmejmdkonnpaaLG
namespace Go.Proofs.Ytncmejmdkonnpaa
open Go.RowKit

end Go.Proofs.Ytncmejmdkonnpaa
