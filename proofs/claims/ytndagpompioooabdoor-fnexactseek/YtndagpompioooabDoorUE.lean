/- A reader made of bits. -/
import Derived.Test.YtndagpompioooabDoorM7
namespace Go.Proofs.YtndagpompioooabDoor
open Go.RowKit

end Go.Proofs.YtndagpompioooabDoor
