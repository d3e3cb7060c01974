/-
  No cell of these rows narrows 'for every input' (looked for: loops, veiled, ifaces, maps, wideKeys, modest, calm, conditions, laid).
  DERIVED. THE GIVEN ROWS OF THIS SEAT. 5 by the template 'for every input the law returns true; each argument reads behind the call as it read before'; 0 by the template 'total and deterministic' (their statements: YtonjgielpcofeaaTotals.lean).
  GIVEN WITH THE SEED: the statements are not yours to turn. If you find one false, say at which input.
  Laid BY PROGRAM, IN A SANDBOX (cutbox-rows.mjs): the forced cells as the released guide's own fill.sh prints them over the translation ee621b1718ac17e8… (all of the seat's roots in one cut). By AI agents, Wed Nov 11 2026. No macro, syntax, notation, axiom, sorry.
-/
import Derived.Test.YtonjgielpcofeaaChecked
import GoSem.Claim
import GoSem.ClaimJoined
import GoSem.ClaimMapViews
import Derived.JoinedTies
import Derived.KernelRfl
namespace Go.Proofs.Ytonjgielpcofeaa
/- THE CELL 'sum', in the pinned program and in every row, IS THE sha256 OF THE DUMP (.gsa) THAT YtonjgielpcofeaaProg.lean LOADS. Nothing in Lean hashes anything: it is a label: what it is worth is what the hold of that sum in a sandbox is worth. -/
noncomputable def Try.pinned : Pinned := { name := "ytonjgielpcofeaa", sum := "ee621b1718ac17e87ed126d6a2e6bbc727ab4dc2ba5f44346b971cc81c8075e1", checked := Try.checked }
namespace Rows
def none {H : Type} : Left H := { results := [], args := [] }

/-- 'laws.FnQtySums': WHATEVER THE INPUT: true; the input reads as it did. -/
def fnQtySumsSpec : ChangeSpec := { name := "fnQtySums", fn := fun _ => fun
  | [d] => { results := [.lit (.bool true)], args := [d] }
  | _ => none }
def fnQtySumsRow : OpenClaim := { program := "ytonjgielpcofeaa", sum := "ee621b1718ac17e87ed126d6a2e6bbc727ab4dc2ba5f44346b971cc81c8075e1", func := "loop.example/g00043/laws.FnQtySums", spec := "fnQtySums", recurses := true, apart := false }
def FnQtySumsSaid : Prop := fnQtySumsRow.holds Try.pinned (OpenSpec.ofChange fnQtySumsSpec)

/-- ITS FALSE NEIGHBOUR: 'it returns false'. Refute it at one input. -/
def fnQtySumsWrong : ChangeSpec := { name := "fnQtySums", fn := fun _ => fun
  | [d] => { results := [.lit (.bool false)], args := [d] }
  | _ => none }
def FnQtySumsWrongFalsely : Prop := fnQtySumsRow.holds Try.pinned (OpenSpec.ofChange fnQtySumsWrong)

/-- 'laws.FnExactQtyOk': WHATEVER THE INPUT: true; the input reads as it did. -/
def fnExactQtyOkSpec : ChangeSpec := { name := "fnExactQtyOk", fn := fun _ => fun
  | [d] => { results := [.lit (.bool true)], args := [d] }
  | _ => none }
def fnExactQtyOkRow : OpenClaim := { program := "ytonjgielpcofeaa", sum := "ee621b1718ac17e87ed126d6a2e6bbc727ab4dc2ba5f44346b971cc81c8075e1", func := "loop.example/g00043/laws.FnExactQtyOk", spec := "fnExactQtyOk", apart := false }
def FnExactQtyOkSaid : Prop := fnExactQtyOkRow.holds Try.pinned (OpenSpec.ofChange fnExactQtyOkSpec)

/-- ITS FALSE NEIGHBOUR: 'it returns false'. Refute it at one input. -/
def fnExactQtyOkWrong : ChangeSpec := { name := "fnExactQtyOk", fn := fun _ => fun
  | [d] => { results := [.lit (.bool false)], args := [d] }
  | _ => none }
def FnExactQtyOkWrongFalsely : Prop := fnExactQtyOkRow.holds Try.pinned (OpenSpec.ofChange fnExactQtyOkWrong)

/-- 'laws.FnExactAddQty': WHATEVER THE INPUT: true; the input reads as it did. -/
def fnExactAddQtySpec : ChangeSpec := { name := "fnExactAddQty", fn := fun _ => fun
  | [d1, d2] => { results := [.lit (.bool true)], args := [d1, d2] }
  | _ => none }
def fnExactAddQtyRow : OpenClaim := { program := "ytonjgielpcofeaa", sum := "ee621b1718ac17e87ed126d6a2e6bbc727ab4dc2ba5f44346b971cc81c8075e1", func := "loop.example/g00043/laws.FnExactAddQty", spec := "fnExactAddQty", recurses := true, apart := false }
def FnExactAddQtySaid : Prop := fnExactAddQtyRow.holds Try.pinned (OpenSpec.ofChange fnExactAddQtySpec)

/-- ITS FALSE NEIGHBOUR: 'it returns false'. Refute it at one input. -/
def fnExactAddQtyWrong : ChangeSpec := { name := "fnExactAddQty", fn := fun _ => fun
  | [d1, d2] => { results := [.lit (.bool false)], args := [d1, d2] }
  | _ => none }
def FnExactAddQtyWrongFalsely : Prop := fnExactAddQtyRow.holds Try.pinned (OpenSpec.ofChange fnExactAddQtyWrong)

/-- 'laws.FnExactMulQty': WHATEVER THE INPUT: true; the input reads as it did. -/
def fnExactMulQtySpec : ChangeSpec := { name := "fnExactMulQty", fn := fun _ => fun
  | [d1, d2] => { results := [.lit (.bool true)], args := [d1, d2] }
  | _ => none }
def fnExactMulQtyRow : OpenClaim := { program := "ytonjgielpcofeaa", sum := "ee621b1718ac17e87ed126d6a2e6bbc727ab4dc2ba5f44346b971cc81c8075e1", func := "loop.example/g00043/laws.FnExactMulQty", spec := "fnExactMulQty", apart := false }
def FnExactMulQtySaid : Prop := fnExactMulQtyRow.holds Try.pinned (OpenSpec.ofChange fnExactMulQtySpec)

/-- ITS FALSE NEIGHBOUR: 'it returns false'. Refute it at one input. -/
def fnExactMulQtyWrong : ChangeSpec := { name := "fnExactMulQty", fn := fun _ => fun
  | [d1, d2] => { results := [.lit (.bool false)], args := [d1, d2] }
  | _ => none }
def FnExactMulQtyWrongFalsely : Prop := fnExactMulQtyRow.holds Try.pinned (OpenSpec.ofChange fnExactMulQtyWrong)

/-- 'laws.FnExactNodeName': WHATEVER THE INPUT: true; the input reads as it did. -/
def fnExactNodeNameSpec : ChangeSpec := { name := "fnExactNodeName", fn := fun _ => fun
  | [d] => { results := [.lit (.bool true)], args := [d] }
  | _ => none }
def fnExactNodeNameRow : OpenClaim := { program := "ytonjgielpcofeaa", sum := "ee621b1718ac17e87ed126d6a2e6bbc727ab4dc2ba5f44346b971cc81c8075e1", func := "loop.example/g00043/laws.FnExactNodeName", spec := "fnExactNodeName", apart := false }
def FnExactNodeNameSaid : Prop := fnExactNodeNameRow.holds Try.pinned (OpenSpec.ofChange fnExactNodeNameSpec)

/-- ITS FALSE NEIGHBOUR: 'it returns false'. Refute it at one input. -/
def fnExactNodeNameWrong : ChangeSpec := { name := "fnExactNodeName", fn := fun _ => fun
  | [d] => { results := [.lit (.bool false)], args := [d] }
  | _ => none }
def FnExactNodeNameWrongFalsely : Prop := fnExactNodeNameRow.holds Try.pinned (OpenSpec.ofChange fnExactNodeNameWrong)

/- THE SECOND FORM. 'bulk': how many values and letters a reading holds, each counted each time it is reached (what is shared counts as often as it is met; a slice's spare places count too). A statement '..UptoSaid' is the law's where the arguments, and the package variables that the reading takes, are together of bulk at most 1048576: NARROWER than '..Said'. Prove '..Said' where nothing that the law and all that it calls make is longer than what came in: it says more and counts as full. Else prove '..UptoSaid'. A law counts once. -/
mutual
def uptoBulk {H : Type} : DataW H → Nat
  | .lit (.string bytes) => bytes.length + 1
  | .lit _ => 1
  | .nil => 1
  | .ptr d => uptoBulk d + 1
  | .slice elems spare => uptoBulkAll elems + uptoBulkAll spare + 1
  | .agg parts => uptoBulkAll parts + 1
  | .iface _ d => uptoBulk d + 1
  | .map entries => uptoBulkEntries entries + 1
  | .held _ => 1
def uptoBulkAll {H : Type} : List (DataW H) → Nat
  | [] => 0
  | d :: r => uptoBulk d + uptoBulkAll r
def uptoBulkEntries {H : Type} : List (Lit × DataW H) → Nat
  | [] => 0
  | x :: r => uptoBulkEntry x + uptoBulkEntries r
def uptoBulkEntry {H : Type} : Lit × DataW H → Nat
  | (.string bytes, d) => bytes.length + uptoBulk d + 1
  | (_, d) => uptoBulk d + 1
 end
def uptoSmall : (H : Type) → List (DataW H) → Bool := fun _ ds => decide (uptoBulkAll ds ≤ 1048576)
def OpenSpec.upto (s : _root_.Go.ChangeSpec) : _root_.Go.OpenSpec := { _root_.Go.OpenSpec.ofChange s with cond := some uptoSmall }

/-- 'laws.FnQtySums', WHERE WHAT IT READS IS OF BULK AT MOST 1048576: true; the input reads as it did. -/
def fnQtySumsUptoRow : OpenClaim := { program := "ytonjgielpcofeaa", sum := "ee621b1718ac17e87ed126d6a2e6bbc727ab4dc2ba5f44346b971cc81c8075e1", func := "loop.example/g00043/laws.FnQtySums", spec := "fnQtySums", recurses := true, apart := false, narrowed := true }
def FnQtySumsUptoSaid : Prop := fnQtySumsUptoRow.holds Try.pinned (OpenSpec.upto fnQtySumsSpec)

/-- 'laws.FnExactQtyOk', WHERE WHAT IT READS IS OF BULK AT MOST 1048576: true; the input reads as it did. -/
def fnExactQtyOkUptoRow : OpenClaim := { program := "ytonjgielpcofeaa", sum := "ee621b1718ac17e87ed126d6a2e6bbc727ab4dc2ba5f44346b971cc81c8075e1", func := "loop.example/g00043/laws.FnExactQtyOk", spec := "fnExactQtyOk", apart := false, narrowed := true }
def FnExactQtyOkUptoSaid : Prop := fnExactQtyOkUptoRow.holds Try.pinned (OpenSpec.upto fnExactQtyOkSpec)

/-- 'laws.FnExactAddQty', WHERE WHAT IT READS IS OF BULK AT MOST 1048576: true; the input reads as it did. -/
def fnExactAddQtyUptoRow : OpenClaim := { program := "ytonjgielpcofeaa", sum := "ee621b1718ac17e87ed126d6a2e6bbc727ab4dc2ba5f44346b971cc81c8075e1", func := "loop.example/g00043/laws.FnExactAddQty", spec := "fnExactAddQty", recurses := true, apart := false, narrowed := true }
def FnExactAddQtyUptoSaid : Prop := fnExactAddQtyUptoRow.holds Try.pinned (OpenSpec.upto fnExactAddQtySpec)

/-- 'laws.FnExactMulQty', WHERE WHAT IT READS IS OF BULK AT MOST 1048576: true; the input reads as it did. -/
def fnExactMulQtyUptoRow : OpenClaim := { program := "ytonjgielpcofeaa", sum := "ee621b1718ac17e87ed126d6a2e6bbc727ab4dc2ba5f44346b971cc81c8075e1", func := "loop.example/g00043/laws.FnExactMulQty", spec := "fnExactMulQty", apart := false, narrowed := true }
def FnExactMulQtyUptoSaid : Prop := fnExactMulQtyUptoRow.holds Try.pinned (OpenSpec.upto fnExactMulQtySpec)

/-- 'laws.FnExactNodeName', WHERE WHAT IT READS IS OF BULK AT MOST 1048576: true; the input reads as it did. -/
def fnExactNodeNameUptoRow : OpenClaim := { program := "ytonjgielpcofeaa", sum := "ee621b1718ac17e87ed126d6a2e6bbc727ab4dc2ba5f44346b971cc81c8075e1", func := "loop.example/g00043/laws.FnExactNodeName", spec := "fnExactNodeName", apart := false, narrowed := true }
def FnExactNodeNameUptoSaid : Prop := fnExactNodeNameUptoRow.holds Try.pinned (OpenSpec.upto fnExactNodeNameSpec)

end Rows
end Go.Proofs.Ytonjgielpcofeaa
