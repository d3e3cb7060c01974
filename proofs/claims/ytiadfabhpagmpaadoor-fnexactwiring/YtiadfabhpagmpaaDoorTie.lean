/-
  DERIVED. GIVEN WITH THE SEED: THE PROGRAM's TIES (one call each: nine closed facts by the kernel) AND EACH ROW's TIE, after the 31st guide's Derived/Test/Toyas{Tie, Card}.lean. No idea stands in it: it is a product of the set-up. Laid BY PROGRAM, IN A SANDBOX (cutbox-door.mjs). By AI agents, Wed Nov 11 2026. No macro, syntax, notation, axiom, sorry.
-/
import Derived.Test.YtiadfabhpagmpaaDoorRows
import Derived.LaidByTextLater
import Derived.SevenTiedAt
import Derived.LaidSub
import Derived.LaidOnce
namespace Go.Proofs.YtiadfabhpagmpaaDoor
open Go
set_option maxRecDepth 100000
theorem seatTie1 : Tryd.prog.laidByTextLater [("loop.example/g00043/impl.nodeKinds", Rows.laid_loop_example_g00043_impl_nodeKinds), ("loop.example/g00043/impl.errNoLine", Rows.laid_loop_example_g00043_impl_errNoLine), ("loop.example/g00043/impl.errNameTwice", Rows.laid_loop_example_g00043_impl_errNameTwice), ("loop.example/g00043/impl.errNoNode", Rows.laid_loop_example_g00043_impl_errNoNode), ("loop.example/g00043/impl.errTooMany", Rows.laid_loop_example_g00043_impl_errTooMany)] [.data, .sentinel, .sentinel, .sentinel, .sentinel] true :=
  Program.laidByTextLater_by_one 98 8 37 (by kernel_rfl) (by kernel_rfl) (by kernel_rfl) (by kernel_rfl) (by kernel_rfl) (by kernel_rfl) (fun _ _ => by kernel_rfl)
theorem noOwnUnsafe : Tryd.pinned.checked.prog.headLifts.contains "ownunsafe" = false := by kernel_rfl
theorem tie : Tryd.prog.laidByTextLater [("loop.example/g00043/impl.nodeKinds", Rows.laid_loop_example_g00043_impl_nodeKinds), ("loop.example/g00043/impl.errNoLine", Rows.laid_loop_example_g00043_impl_errNoLine), ("loop.example/g00043/impl.errNameTwice", Rows.laid_loop_example_g00043_impl_errNameTwice), ("loop.example/g00043/impl.errNoNode", Rows.laid_loop_example_g00043_impl_errNoNode), ("loop.example/g00043/impl.errTooMany", Rows.laid_loop_example_g00043_impl_errTooMany)] [.data, .sentinel, .sentinel, .sentinel, .sentinel] true :=
  Program.laidByTextLater.sub seatTie1 ["loop.example/g00043/impl.nodeKinds", "loop.example/g00043/impl.errNoLine", "loop.example/g00043/impl.errNameTwice", "loop.example/g00043/impl.errNoNode", "loop.example/g00043/impl.errTooMany"] (by kernel_rfl) (by kernel_rfl)
theorem fnExactPlanOk_row_tie : Rows.fnExactPlanOkRow.laidByTextAt .later Tryd.pinned [.data, .sentinel, .sentinel, .sentinel, .sentinel] true :=
  OpenClaim.laidByTextAt_later rfl rfl tie noOwnUnsafe
theorem fnExactWiring_row_tie : Rows.fnExactWiringRow.laidByTextAt .later Tryd.pinned [.data, .sentinel, .sentinel, .sentinel, .sentinel] true :=
  OpenClaim.laidByTextAt_later rfl rfl tie noOwnUnsafe
theorem fnExactPlanOkUpto_row_tie : Rows.fnExactPlanOkUptoRow.laidByTextAt .later Tryd.pinned [.data, .sentinel, .sentinel, .sentinel, .sentinel] true :=
  OpenClaim.laidByTextAt_later rfl rfl tie noOwnUnsafe
theorem fnExactWiringUpto_row_tie : Rows.fnExactWiringUptoRow.laidByTextAt .later Tryd.pinned [.data, .sentinel, .sentinel, .sentinel, .sentinel] true :=
  OpenClaim.laidByTextAt_later rfl rfl tie noOwnUnsafe
end Go.Proofs.YtiadfabhpagmpaaDoor
