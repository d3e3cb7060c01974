/- The program's isNan. -/
import Derived.Test.YtcmjhgijejmiaaaQN1
namespace Go.Proofs.Ytcmjhgijejmiaaa.Q
open Go.RowKit

end Go.Proofs.Ytcmjhgijejmiaaa.Q
