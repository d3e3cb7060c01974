/- The walk of the law of Unpack: it answers true, and old memory stays as it was. -/
import Derived.Test.YtghblaphkbcgpaaDoorHC1
namespace Go.Proofs.YtghblaphkbcgpaaDoor
open Go.RowKit

/-- Both tables lie in memory. -/
structure Tabs (w : World) : Prop where
  shp : Shp w
  brj : Brj w

theorem below_alx {w w1 w2 : World} (o : Obj) (ha : Below w.heap.size w w1) (hb : Below (w1.alloc o).heap.size (w1.alloc o) w2) : Below w.heap.size w w2 :=
  (below_al o ha).trans (hb.mono (below_al o ha).size)

end Go.Proofs.YtghblaphkbcgpaaDoor
