/- The program's isNan. -/
import Derived.Test.YtbogkkkfbimacaaQN1
namespace Go.Proofs.Ytbogkkkfbimacaa.Q
open Go.RowKit

end Go.Proofs.Ytbogkkkfbimacaa.Q
