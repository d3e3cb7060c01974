/-
  No cell of these rows narrows 'for every input' (looked for: loops, veiled, ifaces, maps, wideKeys, modest, calm, conditions, laid).
  DERIVED. THE GIVEN ROWS OF THIS SEAT. 6 by the template 'for every input the law returns true; each argument reads behind the call as it read before'; 0 by the template 'total and deterministic' (their statements: YtgpoajcpngndhaaTotals.lean).
  GIVEN WITH THE SEED: the statements are not yours to turn. If you find one false, say at which input.
  Laid BY PROGRAM, IN A SANDBOX (cutbox-rows.mjs): the forced cells as the released guide's own fill.sh prints them over the translation b8ab1a630d7ea553… (all of the seat's roots in one cut). By AI agents, Wed Nov 11 2026. No macro, syntax, notation, axiom, sorry.
-/
import Derived.Test.YtgpoajcpngndhaaChecked
import GoSem.Claim
import GoSem.ClaimJoined
import GoSem.ClaimMapViews
import Derived.JoinedTies
import Derived.KernelRfl
namespace Go.Proofs.Ytgpoajcpngndhaa
/- THE CELL 'sum', in the pinned program and in every row, IS THE sha256 OF THE DUMP (.gsa) THAT YtgpoajcpngndhaaProg.lean LOADS. Nothing in Lean hashes anything: it is a label: what it is worth is what the hold of that sum in a sandbox is worth. -/
noncomputable def Try.pinned : Pinned := { name := "ytgpoajcpngndhaa", sum := "b8ab1a630d7ea5539137ba716a5fc65c1e36acc1714518ed1d6c691c0a54ea8d", checked := Try.checked }
namespace Rows
def none {H : Type} : Left H := { results := [], args := [] }

/-- 'laws.FnExactSignalOk': WHATEVER THE INPUT: true; the input reads as it did. -/
def fnExactSignalOkSpec : ChangeSpec := { name := "fnExactSignalOk", fn := fun _ => fun
  | [d] => { results := [.lit (.bool true)], args := [d] }
  | _ => none }
def fnExactSignalOkRow : OpenClaim := { program := "ytgpoajcpngndhaa", sum := "b8ab1a630d7ea5539137ba716a5fc65c1e36acc1714518ed1d6c691c0a54ea8d", func := "loop.example/g00043/laws.FnExactSignalOk", spec := "fnExactSignalOk", apart := false }
def FnExactSignalOkSaid : Prop := fnExactSignalOkRow.holds Try.pinned (OpenSpec.ofChange fnExactSignalOkSpec)

/-- ITS FALSE NEIGHBOUR: 'it returns false'. Refute it at one input. -/
def fnExactSignalOkWrong : ChangeSpec := { name := "fnExactSignalOk", fn := fun _ => fun
  | [d] => { results := [.lit (.bool false)], args := [d] }
  | _ => none }
def FnExactSignalOkWrongFalsely : Prop := fnExactSignalOkRow.holds Try.pinned (OpenSpec.ofChange fnExactSignalOkWrong)

/-- 'laws.FnExactRoundDiv': WHATEVER THE INPUT: true; the input reads as it did. -/
def fnExactRoundDivSpec : ChangeSpec := { name := "fnExactRoundDiv", fn := fun _ => fun
  | [d1, d2] => { results := [.lit (.bool true)], args := [d1, d2] }
  | _ => none }
def fnExactRoundDivRow : OpenClaim := { program := "ytgpoajcpngndhaa", sum := "b8ab1a630d7ea5539137ba716a5fc65c1e36acc1714518ed1d6c691c0a54ea8d", func := "loop.example/g00043/laws.FnExactRoundDiv", spec := "fnExactRoundDiv", apart := false }
def FnExactRoundDivSaid : Prop := fnExactRoundDivRow.holds Try.pinned (OpenSpec.ofChange fnExactRoundDivSpec)

/-- ITS FALSE NEIGHBOUR: 'it returns false'. Refute it at one input. -/
def fnExactRoundDivWrong : ChangeSpec := { name := "fnExactRoundDiv", fn := fun _ => fun
  | [d1, d2] => { results := [.lit (.bool false)], args := [d1, d2] }
  | _ => none }
def FnExactRoundDivWrongFalsely : Prop := fnExactRoundDivRow.holds Try.pinned (OpenSpec.ofChange fnExactRoundDivWrong)

/-- 'laws.FnExactClip': WHATEVER THE INPUT: true; the input reads as it did. -/
def fnExactClipSpec : ChangeSpec := { name := "fnExactClip", fn := fun _ => fun
  | [d1, d2] => { results := [.lit (.bool true)], args := [d1, d2] }
  | _ => none }
def fnExactClipRow : OpenClaim := { program := "ytgpoajcpngndhaa", sum := "b8ab1a630d7ea5539137ba716a5fc65c1e36acc1714518ed1d6c691c0a54ea8d", func := "loop.example/g00043/laws.FnExactClip", spec := "fnExactClip", apart := false }
def FnExactClipSaid : Prop := fnExactClipRow.holds Try.pinned (OpenSpec.ofChange fnExactClipSpec)

/-- ITS FALSE NEIGHBOUR: 'it returns false'. Refute it at one input. -/
def fnExactClipWrong : ChangeSpec := { name := "fnExactClip", fn := fun _ => fun
  | [d1, d2] => { results := [.lit (.bool false)], args := [d1, d2] }
  | _ => none }
def FnExactClipWrongFalsely : Prop := fnExactClipRow.holds Try.pinned (OpenSpec.ofChange fnExactClipWrong)

/-- 'laws.FnExactShift': WHATEVER THE INPUT: true; the input reads as it did. -/
def fnExactShiftSpec : ChangeSpec := { name := "fnExactShift", fn := fun _ => fun
  | [d1, d2, d3] => { results := [.lit (.bool true)], args := [d1, d2, d3] }
  | _ => none }
def fnExactShiftRow : OpenClaim := { program := "ytgpoajcpngndhaa", sum := "b8ab1a630d7ea5539137ba716a5fc65c1e36acc1714518ed1d6c691c0a54ea8d", func := "loop.example/g00043/laws.FnExactShift", spec := "fnExactShift", apart := false }
def FnExactShiftSaid : Prop := fnExactShiftRow.holds Try.pinned (OpenSpec.ofChange fnExactShiftSpec)

/-- ITS FALSE NEIGHBOUR: 'it returns false'. Refute it at one input. -/
def fnExactShiftWrong : ChangeSpec := { name := "fnExactShift", fn := fun _ => fun
  | [d1, d2, d3] => { results := [.lit (.bool false)], args := [d1, d2, d3] }
  | _ => none }
def FnExactShiftWrongFalsely : Prop := fnExactShiftRow.holds Try.pinned (OpenSpec.ofChange fnExactShiftWrong)

/-- 'laws.FnExactMulFix': WHATEVER THE INPUT: true; the input reads as it did. -/
def fnExactMulFixSpec : ChangeSpec := { name := "fnExactMulFix", fn := fun _ => fun
  | [d1, d2, d3, d4, d5] => { results := [.lit (.bool true)], args := [d1, d2, d3, d4, d5] }
  | _ => none }
def fnExactMulFixRow : OpenClaim := { program := "ytgpoajcpngndhaa", sum := "b8ab1a630d7ea5539137ba716a5fc65c1e36acc1714518ed1d6c691c0a54ea8d", func := "loop.example/g00043/laws.FnExactMulFix", spec := "fnExactMulFix", unfollowed := true, recurses := true, apart := false }
def FnExactMulFixSaid : Prop := fnExactMulFixRow.holds Try.pinned (OpenSpec.ofChange fnExactMulFixSpec)

/-- ITS FALSE NEIGHBOUR: 'it returns false'. Refute it at one input. -/
def fnExactMulFixWrong : ChangeSpec := { name := "fnExactMulFix", fn := fun _ => fun
  | [d1, d2, d3, d4, d5] => { results := [.lit (.bool false)], args := [d1, d2, d3, d4, d5] }
  | _ => none }
def FnExactMulFixWrongFalsely : Prop := fnExactMulFixRow.holds Try.pinned (OpenSpec.ofChange fnExactMulFixWrong)

/-- 'laws.FnExactDotFix': WHATEVER THE INPUT: true; the input reads as it did. -/
def fnExactDotFixSpec : ChangeSpec := { name := "fnExactDotFix", fn := fun _ => fun
  | [d1, d2, d3, d4, d5, d6] => { results := [.lit (.bool true)], args := [d1, d2, d3, d4, d5, d6] }
  | _ => none }
def fnExactDotFixRow : OpenClaim := { program := "ytgpoajcpngndhaa", sum := "b8ab1a630d7ea5539137ba716a5fc65c1e36acc1714518ed1d6c691c0a54ea8d", func := "loop.example/g00043/laws.FnExactDotFix", spec := "fnExactDotFix", unfollowed := true, recurses := true, apart := false }
def FnExactDotFixSaid : Prop := fnExactDotFixRow.holds Try.pinned (OpenSpec.ofChange fnExactDotFixSpec)

/-- ITS FALSE NEIGHBOUR: 'it returns false'. Refute it at one input. -/
def fnExactDotFixWrong : ChangeSpec := { name := "fnExactDotFix", fn := fun _ => fun
  | [d1, d2, d3, d4, d5, d6] => { results := [.lit (.bool false)], args := [d1, d2, d3, d4, d5, d6] }
  | _ => none }
def FnExactDotFixWrongFalsely : Prop := fnExactDotFixRow.holds Try.pinned (OpenSpec.ofChange fnExactDotFixWrong)

/- THE SECOND FORM. 'bulk': how many values and letters a reading holds, each counted each time it is reached (what is shared counts as often as it is met; a slice's spare places count too). A statement '..UptoSaid' is the law's where the arguments, and the package variables that the reading takes, are together of bulk at most 1048576: NARROWER than '..Said'. Prove '..Said' where nothing that the law and all that it calls make is longer than what came in: it says more and counts as full. Else prove '..UptoSaid'. A law counts once. -/
mutual
def uptoBulk {H : Type} : DataW H → Nat
  | .lit (.string bytes) => bytes.length + 1
  | .lit _ => 1
  | .nil => 1
  | .ptr d => uptoBulk d + 1
  | .slice elems spare => uptoBulkAll elems + uptoBulkAll spare + 1
  | .agg parts => uptoBulkAll parts + 1
  | .iface _ d => uptoBulk d + 1
  | .map entries => uptoBulkEntries entries + 1
  | .held _ => 1
def uptoBulkAll {H : Type} : List (DataW H) → Nat
  | [] => 0
  | d :: r => uptoBulk d + uptoBulkAll r
def uptoBulkEntries {H : Type} : List (Lit × DataW H) → Nat
  | [] => 0
  | x :: r => uptoBulkEntry x + uptoBulkEntries r
def uptoBulkEntry {H : Type} : Lit × DataW H → Nat
  | (.string bytes, d) => bytes.length + uptoBulk d + 1
  | (_, d) => uptoBulk d + 1
 end
def uptoSmall : (H : Type) → List (DataW H) → Bool := fun _ ds => decide (uptoBulkAll ds ≤ 1048576)
def OpenSpec.upto (s : _root_.Go.ChangeSpec) : _root_.Go.OpenSpec := { _root_.Go.OpenSpec.ofChange s with cond := some uptoSmall }

/-- 'laws.FnExactSignalOk', WHERE WHAT IT READS IS OF BULK AT MOST 1048576: true; the input reads as it did. -/
def fnExactSignalOkUptoRow : OpenClaim := { program := "ytgpoajcpngndhaa", sum := "b8ab1a630d7ea5539137ba716a5fc65c1e36acc1714518ed1d6c691c0a54ea8d", func := "loop.example/g00043/laws.FnExactSignalOk", spec := "fnExactSignalOk", apart := false, narrowed := true }
def FnExactSignalOkUptoSaid : Prop := fnExactSignalOkUptoRow.holds Try.pinned (OpenSpec.upto fnExactSignalOkSpec)

/-- 'laws.FnExactRoundDiv', WHERE WHAT IT READS IS OF BULK AT MOST 1048576: true; the input reads as it did. -/
def fnExactRoundDivUptoRow : OpenClaim := { program := "ytgpoajcpngndhaa", sum := "b8ab1a630d7ea5539137ba716a5fc65c1e36acc1714518ed1d6c691c0a54ea8d", func := "loop.example/g00043/laws.FnExactRoundDiv", spec := "fnExactRoundDiv", apart := false, narrowed := true }
def FnExactRoundDivUptoSaid : Prop := fnExactRoundDivUptoRow.holds Try.pinned (OpenSpec.upto fnExactRoundDivSpec)

/-- 'laws.FnExactClip', WHERE WHAT IT READS IS OF BULK AT MOST 1048576: true; the input reads as it did. -/
def fnExactClipUptoRow : OpenClaim := { program := "ytgpoajcpngndhaa", sum := "b8ab1a630d7ea5539137ba716a5fc65c1e36acc1714518ed1d6c691c0a54ea8d", func := "loop.example/g00043/laws.FnExactClip", spec := "fnExactClip", apart := false, narrowed := true }
def FnExactClipUptoSaid : Prop := fnExactClipUptoRow.holds Try.pinned (OpenSpec.upto fnExactClipSpec)

/-- 'laws.FnExactShift', WHERE WHAT IT READS IS OF BULK AT MOST 1048576: true; the input reads as it did. -/
def fnExactShiftUptoRow : OpenClaim := { program := "ytgpoajcpngndhaa", sum := "b8ab1a630d7ea5539137ba716a5fc65c1e36acc1714518ed1d6c691c0a54ea8d", func := "loop.example/g00043/laws.FnExactShift", spec := "fnExactShift", apart := false, narrowed := true }
def FnExactShiftUptoSaid : Prop := fnExactShiftUptoRow.holds Try.pinned (OpenSpec.upto fnExactShiftSpec)

/-- 'laws.FnExactMulFix', WHERE WHAT IT READS IS OF BULK AT MOST 1048576: true; the input reads as it did. -/
def fnExactMulFixUptoRow : OpenClaim := { program := "ytgpoajcpngndhaa", sum := "b8ab1a630d7ea5539137ba716a5fc65c1e36acc1714518ed1d6c691c0a54ea8d", func := "loop.example/g00043/laws.FnExactMulFix", spec := "fnExactMulFix", unfollowed := true, recurses := true, apart := false, narrowed := true }
def FnExactMulFixUptoSaid : Prop := fnExactMulFixUptoRow.holds Try.pinned (OpenSpec.upto fnExactMulFixSpec)

/-- 'laws.FnExactDotFix', WHERE WHAT IT READS IS OF BULK AT MOST 1048576: true; the input reads as it did. -/
def fnExactDotFixUptoRow : OpenClaim := { program := "ytgpoajcpngndhaa", sum := "b8ab1a630d7ea5539137ba716a5fc65c1e36acc1714518ed1d6c691c0a54ea8d", func := "loop.example/g00043/laws.FnExactDotFix", spec := "fnExactDotFix", unfollowed := true, recurses := true, apart := false, narrowed := true }
def FnExactDotFixUptoSaid : Prop := fnExactDotFixUptoRow.holds Try.pinned (OpenSpec.upto fnExactDotFixSpec)

end Rows
end Go.Proofs.Ytgpoajcpngndhaa
