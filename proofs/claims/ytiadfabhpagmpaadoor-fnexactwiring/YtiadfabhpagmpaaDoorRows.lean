/-
  NARROWER THAN 'FOR EVERY INPUT', by the rows' own cells (each row's printed sentence says how): FnExactPlanOk: ifaces, laid · FnExactWiring: ifaces, laid.
  DERIVED. THE GIVEN ROWS OF THIS SEAT. 2 by the template 'for every input the law returns true; each argument reads behind the call as it read before'; 0 by the template 'total and deterministic' (their statements: YtiadfabhpagmpaaDoorTotals.lean).
  GIVEN WITH THE SEED: the statements are not yours to turn. If you find one false, say at which input.
  Laid BY PROGRAM, IN A SANDBOX (cutbox-rows.mjs): the forced cells as the released guide's own fill.sh prints them over the translation 8fcd96af4741711b… (all of the seat's roots in one cut). By AI agents, Wed Nov 11 2026. No macro, syntax, notation, axiom, sorry.
-/
import Derived.Test.YtiadfabhpagmpaaDoorChecked
import GoSem.Claim
import GoSem.ClaimJoined
import GoSem.ClaimMapViews
import Derived.JoinedTies
import Derived.KernelRfl
namespace Go.Proofs.YtiadfabhpagmpaaDoor
/- THE CELL 'sum', in the pinned program and in every row, IS THE sha256 OF THE DUMP (.gsa) THAT YtiadfabhpagmpaaDoorProg.lean LOADS. Nothing in Lean hashes anything: it is a label: what it is worth is what the hold of that sum in a sandbox is worth. -/
noncomputable def Tryd.pinned : Pinned := { name := "ytiadfabhpagmpaadoor", sum := "8fcd96af4741711b1c6e890bc3ed02bdd46a7c57a6d40abb2d78cb0e8163ca92", checked := Tryd.checked }
namespace Rows
def none {H : Type} : Left H := { results := [], args := [] }

/- WHAT THE LISTED PACKAGE-LEVEL VARIABLES READ AS WHEN THE CALL BEGINS. Each datum BY PROGRAM (the guide's laid-datum.mjs) off the statement by which the dump's own 'gosem.cut.vars' lays the variable. In a bare row this is a premise. The card (YtiadfabhpagmpaaDoorCards.lean) ties it to the program's text. -/
def laid_loop_example_g00043_impl_nodeKinds {H : Type} : DataW H := .agg [.agg [.lit (.string []), .lit (.int .i64 0), .lit (.int .i64 0), .lit (.int .i64 0)], .agg [.lit (.string [105, 110]), .lit (.int .i64 0), .lit (.int .i64 0), .lit (.int .i64 0)], .agg [.lit (.string [111, 117, 116]), .lit (.int .i64 1), .lit (.int .i64 0), .lit (.int .i64 0)], .agg [.lit (.string [103, 97, 105, 110]), .lit (.int .i64 1), .lit (.int .i64 (-1000)), .lit (.int .i64 1000)], .agg [.lit (.string [97, 100, 100]), .lit (.int .i64 2), .lit (.int .i64 0), .lit (.int .i64 0)], .agg [.lit (.string [100, 101, 108, 97, 121]), .lit (.int .i64 1), .lit (.int .i64 1), .lit (.int .i64 64)], .agg [.lit (.string [117, 112]), .lit (.int .i64 1), .lit (.int .i64 1), .lit (.int .i64 64)], .agg [.lit (.string [100, 111, 119, 110]), .lit (.int .i64 1), .lit (.int .i64 1), .lit (.int .i64 64)], .agg [.lit (.string [102, 111, 108, 100]), .lit (.int .i64 1), .lit (.int .i64 1), .lit (.int .i64 64)]]
def laid_loop_example_g00043_impl_errNoLine {H : Type} : DataW H := .iface "*errors.errorString" (.ptr (.agg [.lit (.string [110, 111, 32, 108, 105, 110, 101, 32, 111, 102, 32, 97, 32, 115, 99, 114, 105, 112, 116])]))
def laid_loop_example_g00043_impl_errNameTwice {H : Type} : DataW H := .iface "*errors.errorString" (.ptr (.agg [.lit (.string [97, 32, 110, 97, 109, 101, 32, 116, 104, 97, 116, 32, 115, 116, 111, 111, 100, 32, 97, 104, 101, 97, 100])]))
def laid_loop_example_g00043_impl_errNoNode {H : Type} : DataW H := .iface "*errors.errorString" (.ptr (.agg [.lit (.string [97, 32, 110, 111, 100, 101, 32, 116, 104, 97, 116, 32, 105, 115, 32, 110, 111, 116, 32, 116, 104, 101, 114, 101])]))
def laid_loop_example_g00043_impl_errTooMany {H : Type} : DataW H := .iface "*errors.errorString" (.ptr (.agg [.lit (.string [97, 32, 110, 111, 100, 101, 32, 111, 114, 32, 97, 32, 108, 105, 110, 107, 32, 116, 111, 111, 32, 109, 97, 110, 121])]))

/-- 'laws.FnExactPlanOk': WHATEVER THE INPUT: true; the input reads as it did. -/
def fnExactPlanOkSpec : ChangeSpec := { name := "fnExactPlanOk", vars := ["loop.example/g00043/impl.errNoLine", "loop.example/g00043/impl.errTooMany", "loop.example/g00043/impl.errNameTwice", "loop.example/g00043/impl.nodeKinds", "loop.example/g00043/impl.errNoNode"], fn := fun _ => fun
  | [d, g1, g2, g3, g4, g5] => { results := [.lit (.bool true)], args := [d], vars := [g1, g2, g3, g4, g5] }
  | _ => none }
def fnExactPlanOkRow : OpenClaim := { program := "ytiadfabhpagmpaadoor", sum := "8fcd96af4741711b1c6e890bc3ed02bdd46a7c57a6d40abb2d78cb0e8163ca92", func := "loop.example/g00043/laws.FnExactPlanOk", spec := "fnExactPlanOk", unfollowed := true, recurses := true, named := ["loop.example/g00043/impl.errNoLine", "loop.example/g00043/impl.errTooMany", "loop.example/g00043/impl.errNameTwice", "loop.example/g00043/impl.nodeKinds", "loop.example/g00043/impl.errNoNode"], ifaces := true, apart := false, laid := [("loop.example/g00043/impl.nodeKinds", laid_loop_example_g00043_impl_nodeKinds), ("loop.example/g00043/impl.errNoLine", laid_loop_example_g00043_impl_errNoLine), ("loop.example/g00043/impl.errNameTwice", laid_loop_example_g00043_impl_errNameTwice), ("loop.example/g00043/impl.errNoNode", laid_loop_example_g00043_impl_errNoNode), ("loop.example/g00043/impl.errTooMany", laid_loop_example_g00043_impl_errTooMany)] }
def FnExactPlanOkSaid : Prop := fnExactPlanOkRow.holds Tryd.pinned (OpenSpec.ofChange fnExactPlanOkSpec)

/-- ITS FALSE NEIGHBOUR: 'it returns false'. Refute it at one input. -/
def fnExactPlanOkWrong : ChangeSpec := { name := "fnExactPlanOk", vars := ["loop.example/g00043/impl.errNoLine", "loop.example/g00043/impl.errTooMany", "loop.example/g00043/impl.errNameTwice", "loop.example/g00043/impl.nodeKinds", "loop.example/g00043/impl.errNoNode"], fn := fun _ => fun
  | [d, g1, g2, g3, g4, g5] => { results := [.lit (.bool false)], args := [d], vars := [g1, g2, g3, g4, g5] }
  | _ => none }
def FnExactPlanOkWrongFalsely : Prop := fnExactPlanOkRow.holds Tryd.pinned (OpenSpec.ofChange fnExactPlanOkWrong)

/-- 'laws.FnExactWiring': WHATEVER THE INPUT: true; the input reads as it did. -/
def fnExactWiringSpec : ChangeSpec := { name := "fnExactWiring", vars := ["loop.example/g00043/impl.errNoLine", "loop.example/g00043/impl.errTooMany", "loop.example/g00043/impl.errNameTwice", "loop.example/g00043/impl.nodeKinds", "loop.example/g00043/impl.errNoNode"], fn := fun _ => fun
  | [d, g1, g2, g3, g4, g5] => { results := [.lit (.bool true)], args := [d], vars := [g1, g2, g3, g4, g5] }
  | _ => none }
def fnExactWiringRow : OpenClaim := { program := "ytiadfabhpagmpaadoor", sum := "8fcd96af4741711b1c6e890bc3ed02bdd46a7c57a6d40abb2d78cb0e8163ca92", func := "loop.example/g00043/laws.FnExactWiring", spec := "fnExactWiring", unfollowed := true, recurses := true, named := ["loop.example/g00043/impl.errNoLine", "loop.example/g00043/impl.errTooMany", "loop.example/g00043/impl.errNameTwice", "loop.example/g00043/impl.nodeKinds", "loop.example/g00043/impl.errNoNode"], ifaces := true, apart := false, laid := [("loop.example/g00043/impl.nodeKinds", laid_loop_example_g00043_impl_nodeKinds), ("loop.example/g00043/impl.errNoLine", laid_loop_example_g00043_impl_errNoLine), ("loop.example/g00043/impl.errNameTwice", laid_loop_example_g00043_impl_errNameTwice), ("loop.example/g00043/impl.errNoNode", laid_loop_example_g00043_impl_errNoNode), ("loop.example/g00043/impl.errTooMany", laid_loop_example_g00043_impl_errTooMany)] }
def FnExactWiringSaid : Prop := fnExactWiringRow.holds Tryd.pinned (OpenSpec.ofChange fnExactWiringSpec)

/-- ITS FALSE NEIGHBOUR: 'it returns false'. Refute it at one input. -/
def fnExactWiringWrong : ChangeSpec := { name := "fnExactWiring", vars := ["loop.example/g00043/impl.errNoLine", "loop.example/g00043/impl.errTooMany", "loop.example/g00043/impl.errNameTwice", "loop.example/g00043/impl.nodeKinds", "loop.example/g00043/impl.errNoNode"], fn := fun _ => fun
  | [d, g1, g2, g3, g4, g5] => { results := [.lit (.bool false)], args := [d], vars := [g1, g2, g3, g4, g5] }
  | _ => none }
def FnExactWiringWrongFalsely : Prop := fnExactWiringRow.holds Tryd.pinned (OpenSpec.ofChange fnExactWiringWrong)

/- THE SECOND FORM. 'bulk': how many values and letters a reading holds, each counted each time it is reached (what is shared counts as often as it is met; a slice's spare places count too). A statement '..UptoSaid' is the law's where the arguments, and the package variables that the reading takes, are together of bulk at most 1048576: NARROWER than '..Said'. Prove '..Said' where nothing that the law and all that it calls make is longer than what came in: it says more and counts as full. Else prove '..UptoSaid'. A law counts once. -/
mutual
def uptoBulk {H : Type} : DataW H → Nat
  | .lit (.string bytes) => bytes.length + 1
  | .lit _ => 1
  | .nil => 1
  | .ptr d => uptoBulk d + 1
  | .slice elems spare => uptoBulkAll elems + uptoBulkAll spare + 1
  | .agg parts => uptoBulkAll parts + 1
  | .iface _ d => uptoBulk d + 1
  | .map entries => uptoBulkEntries entries + 1
  | .held _ => 1
def uptoBulkAll {H : Type} : List (DataW H) → Nat
  | [] => 0
  | d :: r => uptoBulk d + uptoBulkAll r
def uptoBulkEntries {H : Type} : List (Lit × DataW H) → Nat
  | [] => 0
  | x :: r => uptoBulkEntry x + uptoBulkEntries r
def uptoBulkEntry {H : Type} : Lit × DataW H → Nat
  | (.string bytes, d) => bytes.length + uptoBulk d + 1
  | (_, d) => uptoBulk d + 1
 end
def uptoSmall : (H : Type) → List (DataW H) → Bool := fun _ ds => decide (uptoBulkAll ds ≤ 1048576)
def OpenSpec.upto (s : _root_.Go.ChangeSpec) : _root_.Go.OpenSpec := { _root_.Go.OpenSpec.ofChange s with cond := some uptoSmall }

/-- 'laws.FnExactPlanOk', WHERE WHAT IT READS IS OF BULK AT MOST 1048576: true; the input reads as it did. -/
def fnExactPlanOkUptoRow : OpenClaim := { program := "ytiadfabhpagmpaadoor", sum := "8fcd96af4741711b1c6e890bc3ed02bdd46a7c57a6d40abb2d78cb0e8163ca92", func := "loop.example/g00043/laws.FnExactPlanOk", spec := "fnExactPlanOk", unfollowed := true, recurses := true, named := ["loop.example/g00043/impl.errNoLine", "loop.example/g00043/impl.errTooMany", "loop.example/g00043/impl.errNameTwice", "loop.example/g00043/impl.nodeKinds", "loop.example/g00043/impl.errNoNode"], ifaces := true, apart := false, laid := [("loop.example/g00043/impl.nodeKinds", laid_loop_example_g00043_impl_nodeKinds), ("loop.example/g00043/impl.errNoLine", laid_loop_example_g00043_impl_errNoLine), ("loop.example/g00043/impl.errNameTwice", laid_loop_example_g00043_impl_errNameTwice), ("loop.example/g00043/impl.errNoNode", laid_loop_example_g00043_impl_errNoNode), ("loop.example/g00043/impl.errTooMany", laid_loop_example_g00043_impl_errTooMany)], narrowed := true }
def FnExactPlanOkUptoSaid : Prop := fnExactPlanOkUptoRow.holds Tryd.pinned (OpenSpec.upto fnExactPlanOkSpec)

/-- 'laws.FnExactWiring', WHERE WHAT IT READS IS OF BULK AT MOST 1048576: true; the input reads as it did. -/
def fnExactWiringUptoRow : OpenClaim := { program := "ytiadfabhpagmpaadoor", sum := "8fcd96af4741711b1c6e890bc3ed02bdd46a7c57a6d40abb2d78cb0e8163ca92", func := "loop.example/g00043/laws.FnExactWiring", spec := "fnExactWiring", unfollowed := true, recurses := true, named := ["loop.example/g00043/impl.errNoLine", "loop.example/g00043/impl.errTooMany", "loop.example/g00043/impl.errNameTwice", "loop.example/g00043/impl.nodeKinds", "loop.example/g00043/impl.errNoNode"], ifaces := true, apart := false, laid := [("loop.example/g00043/impl.nodeKinds", laid_loop_example_g00043_impl_nodeKinds), ("loop.example/g00043/impl.errNoLine", laid_loop_example_g00043_impl_errNoLine), ("loop.example/g00043/impl.errNameTwice", laid_loop_example_g00043_impl_errNameTwice), ("loop.example/g00043/impl.errNoNode", laid_loop_example_g00043_impl_errNoNode), ("loop.example/g00043/impl.errTooMany", laid_loop_example_g00043_impl_errTooMany)], narrowed := true }
def FnExactWiringUptoSaid : Prop := fnExactWiringUptoRow.holds Tryd.pinned (OpenSpec.upto fnExactWiringSpec)

end Rows
end Go.Proofs.YtiadfabhpagmpaaDoor
