/-
  No cell of these rows narrows 'for every input' (looked for: loops, veiled, ifaces, maps, wideKeys, modest, calm, conditions, laid).
  DERIVED. THE GIVEN ROWS OF THIS SEAT. 6 by the template 'for every input the law returns true; each argument reads behind the call as it read before'; 0 by the template 'total and deterministic' (their statements: YtamcpmclnjngcaaTotals.lean).
  GIVEN WITH THE SEED: the statements are not yours to turn. If you find one false, say at which input.
  Laid BY PROGRAM, IN A SANDBOX (cutbox-rows.mjs): the forced cells as the released guide's own fill.sh prints them over the translation 1955e24d68b6a20b… (all of the seat's roots in one cut). By AI agents, Wed Nov 11 2026. No macro, syntax, notation, axiom, sorry.
-/
import Derived.Test.YtamcpmclnjngcaaChecked
import GoSem.Claim
import GoSem.ClaimJoined
import GoSem.ClaimMapViews
import Derived.JoinedTies
import Derived.KernelRfl
namespace Go.Proofs.Ytamcpmclnjngcaa
/- THE CELL 'sum', in the pinned program and in every row, IS THE sha256 OF THE DUMP (.gsa) THAT YtamcpmclnjngcaaProg.lean LOADS. Nothing in Lean hashes anything: it is a label: what it is worth is what the hold of that sum in a sandbox is worth. -/
noncomputable def Try.pinned : Pinned := { name := "ytamcpmclnjngcaa", sum := "1955e24d68b6a20b49d159c335877d7aea35de1bf6f4161dd2f5f4ab533b2a4c", checked := Try.checked }
namespace Rows
def none {H : Type} : Left H := { results := [], args := [] }

/-- 'laws.FnMended': WHATEVER THE INPUT: true; the input reads as it did. -/
def fnMendedSpec : ChangeSpec := { name := "fnMended", fn := fun _ => fun
  | [d] => { results := [.lit (.bool true)], args := [d] }
  | _ => none }
def fnMendedRow : OpenClaim := { program := "ytamcpmclnjngcaa", sum := "1955e24d68b6a20b49d159c335877d7aea35de1bf6f4161dd2f5f4ab533b2a4c", func := "loop.example/g00043/laws.FnMended", spec := "fnMended", apart := false }
def FnMendedSaid : Prop := fnMendedRow.holds Try.pinned (OpenSpec.ofChange fnMendedSpec)

/-- ITS FALSE NEIGHBOUR: 'it returns false'. Refute it at one input. -/
def fnMendedWrong : ChangeSpec := { name := "fnMended", fn := fun _ => fun
  | [d] => { results := [.lit (.bool false)], args := [d] }
  | _ => none }
def FnMendedWrongFalsely : Prop := fnMendedRow.holds Try.pinned (OpenSpec.ofChange fnMendedWrong)

/-- 'laws.FnNearestWord': WHATEVER THE INPUT: true; the input reads as it did. -/
def fnNearestWordSpec : ChangeSpec := { name := "fnNearestWord", fn := fun _ => fun
  | [d] => { results := [.lit (.bool true)], args := [d] }
  | _ => none }
def fnNearestWordRow : OpenClaim := { program := "ytamcpmclnjngcaa", sum := "1955e24d68b6a20b49d159c335877d7aea35de1bf6f4161dd2f5f4ab533b2a4c", func := "loop.example/g00043/laws.FnNearestWord", spec := "fnNearestWord", apart := false }
def FnNearestWordSaid : Prop := fnNearestWordRow.holds Try.pinned (OpenSpec.ofChange fnNearestWordSpec)

/-- ITS FALSE NEIGHBOUR: 'it returns false'. Refute it at one input. -/
def fnNearestWordWrong : ChangeSpec := { name := "fnNearestWord", fn := fun _ => fun
  | [d] => { results := [.lit (.bool false)], args := [d] }
  | _ => none }
def FnNearestWordWrongFalsely : Prop := fnNearestWordRow.holds Try.pinned (OpenSpec.ofChange fnNearestWordWrong)

/-- 'laws.FnExactGfMul': WHATEVER THE INPUT: true; the input reads as it did. -/
def fnExactGfMulSpec : ChangeSpec := { name := "fnExactGfMul", fn := fun _ => fun
  | [d1, d2] => { results := [.lit (.bool true)], args := [d1, d2] }
  | _ => none }
def fnExactGfMulRow : OpenClaim := { program := "ytamcpmclnjngcaa", sum := "1955e24d68b6a20b49d159c335877d7aea35de1bf6f4161dd2f5f4ab533b2a4c", func := "loop.example/g00043/laws.FnExactGfMul", spec := "fnExactGfMul", apart := false }
def FnExactGfMulSaid : Prop := fnExactGfMulRow.holds Try.pinned (OpenSpec.ofChange fnExactGfMulSpec)

/-- ITS FALSE NEIGHBOUR: 'it returns false'. Refute it at one input. -/
def fnExactGfMulWrong : ChangeSpec := { name := "fnExactGfMul", fn := fun _ => fun
  | [d1, d2] => { results := [.lit (.bool false)], args := [d1, d2] }
  | _ => none }
def FnExactGfMulWrongFalsely : Prop := fnExactGfMulRow.holds Try.pinned (OpenSpec.ofChange fnExactGfMulWrong)

/-- 'laws.FnExactRsCode': WHATEVER THE INPUT: true; the input reads as it did. -/
def fnExactRsCodeSpec : ChangeSpec := { name := "fnExactRsCode", fn := fun _ => fun
  | [d1, d2] => { results := [.lit (.bool true)], args := [d1, d2] }
  | _ => none }
def fnExactRsCodeRow : OpenClaim := { program := "ytamcpmclnjngcaa", sum := "1955e24d68b6a20b49d159c335877d7aea35de1bf6f4161dd2f5f4ab533b2a4c", func := "loop.example/g00043/laws.FnExactRsCode", spec := "fnExactRsCode", apart := false }
def FnExactRsCodeSaid : Prop := fnExactRsCodeRow.holds Try.pinned (OpenSpec.ofChange fnExactRsCodeSpec)

/-- ITS FALSE NEIGHBOUR: 'it returns false'. Refute it at one input. -/
def fnExactRsCodeWrong : ChangeSpec := { name := "fnExactRsCode", fn := fun _ => fun
  | [d1, d2] => { results := [.lit (.bool false)], args := [d1, d2] }
  | _ => none }
def FnExactRsCodeWrongFalsely : Prop := fnExactRsCodeRow.holds Try.pinned (OpenSpec.ofChange fnExactRsCodeWrong)

/-- 'laws.FnExactRsOk': WHATEVER THE INPUT: true; the input reads as it did. -/
def fnExactRsOkSpec : ChangeSpec := { name := "fnExactRsOk", fn := fun _ => fun
  | [d1, d2] => { results := [.lit (.bool true)], args := [d1, d2] }
  | _ => none }
def fnExactRsOkRow : OpenClaim := { program := "ytamcpmclnjngcaa", sum := "1955e24d68b6a20b49d159c335877d7aea35de1bf6f4161dd2f5f4ab533b2a4c", func := "loop.example/g00043/laws.FnExactRsOk", spec := "fnExactRsOk", apart := false }
def FnExactRsOkSaid : Prop := fnExactRsOkRow.holds Try.pinned (OpenSpec.ofChange fnExactRsOkSpec)

/-- ITS FALSE NEIGHBOUR: 'it returns false'. Refute it at one input. -/
def fnExactRsOkWrong : ChangeSpec := { name := "fnExactRsOk", fn := fun _ => fun
  | [d1, d2] => { results := [.lit (.bool false)], args := [d1, d2] }
  | _ => none }
def FnExactRsOkWrongFalsely : Prop := fnExactRsOkRow.holds Try.pinned (OpenSpec.ofChange fnExactRsOkWrong)

/-- 'laws.FnExactRsMend': WHATEVER THE INPUT: true; the input reads as it did. -/
def fnExactRsMendSpec : ChangeSpec := { name := "fnExactRsMend", fn := fun _ => fun
  | [d1, d2] => { results := [.lit (.bool true)], args := [d1, d2] }
  | _ => none }
def fnExactRsMendRow : OpenClaim := { program := "ytamcpmclnjngcaa", sum := "1955e24d68b6a20b49d159c335877d7aea35de1bf6f4161dd2f5f4ab533b2a4c", func := "loop.example/g00043/laws.FnExactRsMend", spec := "fnExactRsMend", apart := false }
def FnExactRsMendSaid : Prop := fnExactRsMendRow.holds Try.pinned (OpenSpec.ofChange fnExactRsMendSpec)

/-- ITS FALSE NEIGHBOUR: 'it returns false'. Refute it at one input. -/
def fnExactRsMendWrong : ChangeSpec := { name := "fnExactRsMend", fn := fun _ => fun
  | [d1, d2] => { results := [.lit (.bool false)], args := [d1, d2] }
  | _ => none }
def FnExactRsMendWrongFalsely : Prop := fnExactRsMendRow.holds Try.pinned (OpenSpec.ofChange fnExactRsMendWrong)

/- THE SECOND FORM. 'bulk': how many values and letters a reading holds, each counted each time it is reached (what is shared counts as often as it is met; a slice's spare places count too). A statement '..UptoSaid' is the law's where the arguments, and the package variables that the reading takes, are together of bulk at most 1048576: NARROWER than '..Said'. Prove '..Said' where nothing that the law and all that it calls make is longer than what came in: it says more and counts as full. Else prove '..UptoSaid'. A law counts once. -/
mutual
def uptoBulk {H : Type} : DataW H → Nat
  | .lit (.string bytes) => bytes.length + 1
  | .lit _ => 1
  | .nil => 1
  | .ptr d => uptoBulk d + 1
  | .slice elems spare => uptoBulkAll elems + uptoBulkAll spare + 1
  | .agg parts => uptoBulkAll parts + 1
  | .iface _ d => uptoBulk d + 1
  | .map entries => uptoBulkEntries entries + 1
  | .held _ => 1
def uptoBulkAll {H : Type} : List (DataW H) → Nat
  | [] => 0
  | d :: r => uptoBulk d + uptoBulkAll r
def uptoBulkEntries {H : Type} : List (Lit × DataW H) → Nat
  | [] => 0
  | x :: r => uptoBulkEntry x + uptoBulkEntries r
def uptoBulkEntry {H : Type} : Lit × DataW H → Nat
  | (.string bytes, d) => bytes.length + uptoBulk d + 1
  | (_, d) => uptoBulk d + 1
 end
def uptoSmall : (H : Type) → List (DataW H) → Bool := fun _ ds => decide (uptoBulkAll ds ≤ 1048576)
def OpenSpec.upto (s : _root_.Go.ChangeSpec) : _root_.Go.OpenSpec := { _root_.Go.OpenSpec.ofChange s with cond := some uptoSmall }

/-- 'laws.FnMended', WHERE WHAT IT READS IS OF BULK AT MOST 1048576: true; the input reads as it did. -/
def fnMendedUptoRow : OpenClaim := { program := "ytamcpmclnjngcaa", sum := "1955e24d68b6a20b49d159c335877d7aea35de1bf6f4161dd2f5f4ab533b2a4c", func := "loop.example/g00043/laws.FnMended", spec := "fnMended", apart := false, narrowed := true }
def FnMendedUptoSaid : Prop := fnMendedUptoRow.holds Try.pinned (OpenSpec.upto fnMendedSpec)

/-- 'laws.FnNearestWord', WHERE WHAT IT READS IS OF BULK AT MOST 1048576: true; the input reads as it did. -/
def fnNearestWordUptoRow : OpenClaim := { program := "ytamcpmclnjngcaa", sum := "1955e24d68b6a20b49d159c335877d7aea35de1bf6f4161dd2f5f4ab533b2a4c", func := "loop.example/g00043/laws.FnNearestWord", spec := "fnNearestWord", apart := false, narrowed := true }
def FnNearestWordUptoSaid : Prop := fnNearestWordUptoRow.holds Try.pinned (OpenSpec.upto fnNearestWordSpec)

/-- 'laws.FnExactGfMul', WHERE WHAT IT READS IS OF BULK AT MOST 1048576: true; the input reads as it did. -/
def fnExactGfMulUptoRow : OpenClaim := { program := "ytamcpmclnjngcaa", sum := "1955e24d68b6a20b49d159c335877d7aea35de1bf6f4161dd2f5f4ab533b2a4c", func := "loop.example/g00043/laws.FnExactGfMul", spec := "fnExactGfMul", apart := false, narrowed := true }
def FnExactGfMulUptoSaid : Prop := fnExactGfMulUptoRow.holds Try.pinned (OpenSpec.upto fnExactGfMulSpec)

/-- 'laws.FnExactRsCode', WHERE WHAT IT READS IS OF BULK AT MOST 1048576: true; the input reads as it did. -/
def fnExactRsCodeUptoRow : OpenClaim := { program := "ytamcpmclnjngcaa", sum := "1955e24d68b6a20b49d159c335877d7aea35de1bf6f4161dd2f5f4ab533b2a4c", func := "loop.example/g00043/laws.FnExactRsCode", spec := "fnExactRsCode", apart := false, narrowed := true }
def FnExactRsCodeUptoSaid : Prop := fnExactRsCodeUptoRow.holds Try.pinned (OpenSpec.upto fnExactRsCodeSpec)

/-- 'laws.FnExactRsOk', WHERE WHAT IT READS IS OF BULK AT MOST 1048576: true; the input reads as it did. -/
def fnExactRsOkUptoRow : OpenClaim := { program := "ytamcpmclnjngcaa", sum := "1955e24d68b6a20b49d159c335877d7aea35de1bf6f4161dd2f5f4ab533b2a4c", func := "loop.example/g00043/laws.FnExactRsOk", spec := "fnExactRsOk", apart := false, narrowed := true }
def FnExactRsOkUptoSaid : Prop := fnExactRsOkUptoRow.holds Try.pinned (OpenSpec.upto fnExactRsOkSpec)

/-- 'laws.FnExactRsMend', WHERE WHAT IT READS IS OF BULK AT MOST 1048576: true; the input reads as it did. -/
def fnExactRsMendUptoRow : OpenClaim := { program := "ytamcpmclnjngcaa", sum := "1955e24d68b6a20b49d159c335877d7aea35de1bf6f4161dd2f5f4ab533b2a4c", func := "loop.example/g00043/laws.FnExactRsMend", spec := "fnExactRsMend", apart := false, narrowed := true }
def FnExactRsMendUptoSaid : Prop := fnExactRsMendUptoRow.holds Try.pinned (OpenSpec.upto fnExactRsMendSpec)

end Rows
end Go.Proofs.Ytamcpmclnjngcaa
