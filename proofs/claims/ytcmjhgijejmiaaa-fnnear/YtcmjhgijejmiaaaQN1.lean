/- The program's small methods on a form: sign bit, infinity, quiet bit, plain NaN, whether bits are a NaN. -/
import Derived.Test.YtcmjhgijejmiaaaQU3
import Derived.RegionTactic
import Derived.Deep.RegionWith
namespace Go.Proofs.Ytcmjhgijejmiaaa.Q
open Go.RowKit

theorem below_34 {w : World} (o o' o'' : Obj) : Below w.heap.size w (((w.alloc o).alloc o').alloc o'') := (below_two o o').alloc (by simp; omega) _

theorem below_34d {w : World} (o o' o'' : Obj) : Below w.heap.size w (((w.alloc o).alloc o').alloc o'').drew := (below_34 o o' o'').drew

end Go.Proofs.Ytcmjhgijejmiaaa.Q
