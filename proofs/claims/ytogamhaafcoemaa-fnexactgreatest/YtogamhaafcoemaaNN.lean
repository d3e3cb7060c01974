/- The program's isNan. -/
import Derived.Test.YtogamhaafcoemaaN1
namespace Go.Proofs.Ytogamhaafcoemaa
open Go.RowKit

end Go.Proofs.Ytogamhaafcoemaa
