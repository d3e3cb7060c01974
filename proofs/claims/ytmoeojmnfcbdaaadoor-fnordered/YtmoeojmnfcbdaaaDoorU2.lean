/- The walks of the model's Unpack at a finite number: the loop that takes out the twos. -/
import Derived.Test.YtmoeojmnfcbdaaaDoorU1
namespace Go.Proofs.YtmoeojmnfcbdaaaDoor
open Go.RowKit

end Go.Proofs.YtmoeojmnfcbdaaaDoor
