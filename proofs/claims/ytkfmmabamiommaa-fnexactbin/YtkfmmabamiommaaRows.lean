/-
  No cell of these rows narrows 'for every input' (looked for: loops, veiled, ifaces, maps, wideKeys, modest, calm, conditions, laid).
  DERIVED. THE GIVEN ROWS OF THIS SEAT. 6 by the template 'for every input the law returns true; each argument reads behind the call as it read before'; 0 by the template 'total and deterministic' (their statements: YtkfmmabamiommaaTotals.lean).
  GIVEN WITH THE SEED: the statements are not yours to turn. If you find one false, say at which input.
  Laid BY PROGRAM, IN A SANDBOX (cutbox-rows.mjs): the forced cells as the released guide's own fill.sh prints them over the translation 9330d7f83e0fce86… (all of the seat's roots in one cut). By AI agents, Wed Nov 11 2026. No macro, syntax, notation, axiom, sorry.
-/
import Derived.Test.YtkfmmabamiommaaChecked
import GoSem.Claim
import GoSem.ClaimJoined
import GoSem.ClaimMapViews
import Derived.JoinedTies
import Derived.KernelRfl
namespace Go.Proofs.Ytkfmmabamiommaa
/- THE CELL 'sum', in the pinned program and in every row, IS THE sha256 OF THE DUMP (.gsa) THAT YtkfmmabamiommaaProg.lean LOADS. Nothing in Lean hashes anything: it is a label: what it is worth is what the hold of that sum in a sandbox is worth. -/
noncomputable def Try.pinned : Pinned := { name := "ytkfmmabamiommaa", sum := "9330d7f83e0fce8608f2054b9ac8e33de9bf6411262b1e7306376dafaa54b75f", checked := Try.checked }
namespace Rows
def none {H : Type} : Left H := { results := [], args := [] }

/-- 'laws.FnExactCosine': WHATEVER THE INPUT: true; the input reads as it did. -/
def fnExactCosineSpec : ChangeSpec := { name := "fnExactCosine", fn := fun _ => fun
  | [d] => { results := [.lit (.bool true)], args := [d] }
  | _ => none }
def fnExactCosineRow : OpenClaim := { program := "ytkfmmabamiommaa", sum := "9330d7f83e0fce8608f2054b9ac8e33de9bf6411262b1e7306376dafaa54b75f", func := "loop.example/g00043/laws.FnExactCosine", spec := "fnExactCosine", unfollowed := true, recurses := true, apart := false }
def FnExactCosineSaid : Prop := fnExactCosineRow.holds Try.pinned (OpenSpec.ofChange fnExactCosineSpec)

/-- ITS FALSE NEIGHBOUR: 'it returns false'. Refute it at one input. -/
def fnExactCosineWrong : ChangeSpec := { name := "fnExactCosine", fn := fun _ => fun
  | [d] => { results := [.lit (.bool false)], args := [d] }
  | _ => none }
def FnExactCosineWrongFalsely : Prop := fnExactCosineRow.holds Try.pinned (OpenSpec.ofChange fnExactCosineWrong)

/-- 'laws.FnExactSine': WHATEVER THE INPUT: true; the input reads as it did. -/
def fnExactSineSpec : ChangeSpec := { name := "fnExactSine", fn := fun _ => fun
  | [d] => { results := [.lit (.bool true)], args := [d] }
  | _ => none }
def fnExactSineRow : OpenClaim := { program := "ytkfmmabamiommaa", sum := "9330d7f83e0fce8608f2054b9ac8e33de9bf6411262b1e7306376dafaa54b75f", func := "loop.example/g00043/laws.FnExactSine", spec := "fnExactSine", unfollowed := true, recurses := true, apart := false }
def FnExactSineSaid : Prop := fnExactSineRow.holds Try.pinned (OpenSpec.ofChange fnExactSineSpec)

/-- ITS FALSE NEIGHBOUR: 'it returns false'. Refute it at one input. -/
def fnExactSineWrong : ChangeSpec := { name := "fnExactSine", fn := fun _ => fun
  | [d] => { results := [.lit (.bool false)], args := [d] }
  | _ => none }
def FnExactSineWrongFalsely : Prop := fnExactSineRow.holds Try.pinned (OpenSpec.ofChange fnExactSineWrong)

/-- 'laws.FnExactTone': WHATEVER THE INPUT: true; the input reads as it did. -/
def fnExactToneSpec : ChangeSpec := { name := "fnExactTone", fn := fun _ => fun
  | [d1, d2, d3, d4] => { results := [.lit (.bool true)], args := [d1, d2, d3, d4] }
  | _ => none }
def fnExactToneRow : OpenClaim := { program := "ytkfmmabamiommaa", sum := "9330d7f83e0fce8608f2054b9ac8e33de9bf6411262b1e7306376dafaa54b75f", func := "loop.example/g00043/laws.FnExactTone", spec := "fnExactTone", unfollowed := true, recurses := true, apart := false }
def FnExactToneSaid : Prop := fnExactToneRow.holds Try.pinned (OpenSpec.ofChange fnExactToneSpec)

/-- ITS FALSE NEIGHBOUR: 'it returns false'. Refute it at one input. -/
def fnExactToneWrong : ChangeSpec := { name := "fnExactTone", fn := fun _ => fun
  | [d1, d2, d3, d4] => { results := [.lit (.bool false)], args := [d1, d2, d3, d4] }
  | _ => none }
def FnExactToneWrongFalsely : Prop := fnExactToneRow.holds Try.pinned (OpenSpec.ofChange fnExactToneWrong)

/-- 'laws.FnExactBin': WHATEVER THE INPUT: true; the input reads as it did. -/
def fnExactBinSpec : ChangeSpec := { name := "fnExactBin", fn := fun _ => fun
  | [d1, d2] => { results := [.lit (.bool true)], args := [d1, d2] }
  | _ => none }
def fnExactBinRow : OpenClaim := { program := "ytkfmmabamiommaa", sum := "9330d7f83e0fce8608f2054b9ac8e33de9bf6411262b1e7306376dafaa54b75f", func := "loop.example/g00043/laws.FnExactBin", spec := "fnExactBin", unfollowed := true, recurses := true, apart := false }
def FnExactBinSaid : Prop := fnExactBinRow.holds Try.pinned (OpenSpec.ofChange fnExactBinSpec)

/-- ITS FALSE NEIGHBOUR: 'it returns false'. Refute it at one input. -/
def fnExactBinWrong : ChangeSpec := { name := "fnExactBin", fn := fun _ => fun
  | [d1, d2] => { results := [.lit (.bool false)], args := [d1, d2] }
  | _ => none }
def FnExactBinWrongFalsely : Prop := fnExactBinRow.holds Try.pinned (OpenSpec.ofChange fnExactBinWrong)

/-- 'laws.FnExactTurn': WHATEVER THE INPUT: true; the input reads as it did. -/
def fnExactTurnSpec : ChangeSpec := { name := "fnExactTurn", fn := fun _ => fun
  | [d1, d2, d3] => { results := [.lit (.bool true)], args := [d1, d2, d3] }
  | _ => none }
def fnExactTurnRow : OpenClaim := { program := "ytkfmmabamiommaa", sum := "9330d7f83e0fce8608f2054b9ac8e33de9bf6411262b1e7306376dafaa54b75f", func := "loop.example/g00043/laws.FnExactTurn", spec := "fnExactTurn", unfollowed := true, recurses := true, apart := false }
def FnExactTurnSaid : Prop := fnExactTurnRow.holds Try.pinned (OpenSpec.ofChange fnExactTurnSpec)

/-- ITS FALSE NEIGHBOUR: 'it returns false'. Refute it at one input. -/
def fnExactTurnWrong : ChangeSpec := { name := "fnExactTurn", fn := fun _ => fun
  | [d1, d2, d3] => { results := [.lit (.bool false)], args := [d1, d2, d3] }
  | _ => none }
def FnExactTurnWrongFalsely : Prop := fnExactTurnRow.holds Try.pinned (OpenSpec.ofChange fnExactTurnWrong)

/-- 'laws.FnExactWindow': WHATEVER THE INPUT: true; the input reads as it did. -/
def fnExactWindowSpec : ChangeSpec := { name := "fnExactWindow", fn := fun _ => fun
  | [d1, d2] => { results := [.lit (.bool true)], args := [d1, d2] }
  | _ => none }
def fnExactWindowRow : OpenClaim := { program := "ytkfmmabamiommaa", sum := "9330d7f83e0fce8608f2054b9ac8e33de9bf6411262b1e7306376dafaa54b75f", func := "loop.example/g00043/laws.FnExactWindow", spec := "fnExactWindow", unfollowed := true, recurses := true, apart := false }
def FnExactWindowSaid : Prop := fnExactWindowRow.holds Try.pinned (OpenSpec.ofChange fnExactWindowSpec)

/-- ITS FALSE NEIGHBOUR: 'it returns false'. Refute it at one input. -/
def fnExactWindowWrong : ChangeSpec := { name := "fnExactWindow", fn := fun _ => fun
  | [d1, d2] => { results := [.lit (.bool false)], args := [d1, d2] }
  | _ => none }
def FnExactWindowWrongFalsely : Prop := fnExactWindowRow.holds Try.pinned (OpenSpec.ofChange fnExactWindowWrong)

/- THE SECOND FORM. 'bulk': how many values and letters a reading holds, each counted each time it is reached (what is shared counts as often as it is met; a slice's spare places count too). A statement '..UptoSaid' is the law's where the arguments, and the package variables that the reading takes, are together of bulk at most 1048576: NARROWER than '..Said'. Prove '..Said' where nothing that the law and all that it calls make is longer than what came in: it says more and counts as full. Else prove '..UptoSaid'. A law counts once. -/
mutual
def uptoBulk {H : Type} : DataW H → Nat
  | .lit (.string bytes) => bytes.length + 1
  | .lit _ => 1
  | .nil => 1
  | .ptr d => uptoBulk d + 1
  | .slice elems spare => uptoBulkAll elems + uptoBulkAll spare + 1
  | .agg parts => uptoBulkAll parts + 1
  | .iface _ d => uptoBulk d + 1
  | .map entries => uptoBulkEntries entries + 1
  | .held _ => 1
def uptoBulkAll {H : Type} : List (DataW H) → Nat
  | [] => 0
  | d :: r => uptoBulk d + uptoBulkAll r
def uptoBulkEntries {H : Type} : List (Lit × DataW H) → Nat
  | [] => 0
  | x :: r => uptoBulkEntry x + uptoBulkEntries r
def uptoBulkEntry {H : Type} : Lit × DataW H → Nat
  | (.string bytes, d) => bytes.length + uptoBulk d + 1
  | (_, d) => uptoBulk d + 1
 end
def uptoSmall : (H : Type) → List (DataW H) → Bool := fun _ ds => decide (uptoBulkAll ds ≤ 1048576)
def OpenSpec.upto (s : _root_.Go.ChangeSpec) : _root_.Go.OpenSpec := { _root_.Go.OpenSpec.ofChange s with cond := some uptoSmall }

/-- 'laws.FnExactCosine', WHERE WHAT IT READS IS OF BULK AT MOST 1048576: true; the input reads as it did. -/
def fnExactCosineUptoRow : OpenClaim := { program := "ytkfmmabamiommaa", sum := "9330d7f83e0fce8608f2054b9ac8e33de9bf6411262b1e7306376dafaa54b75f", func := "loop.example/g00043/laws.FnExactCosine", spec := "fnExactCosine", unfollowed := true, recurses := true, apart := false, narrowed := true }
def FnExactCosineUptoSaid : Prop := fnExactCosineUptoRow.holds Try.pinned (OpenSpec.upto fnExactCosineSpec)

/-- 'laws.FnExactSine', WHERE WHAT IT READS IS OF BULK AT MOST 1048576: true; the input reads as it did. -/
def fnExactSineUptoRow : OpenClaim := { program := "ytkfmmabamiommaa", sum := "9330d7f83e0fce8608f2054b9ac8e33de9bf6411262b1e7306376dafaa54b75f", func := "loop.example/g00043/laws.FnExactSine", spec := "fnExactSine", unfollowed := true, recurses := true, apart := false, narrowed := true }
def FnExactSineUptoSaid : Prop := fnExactSineUptoRow.holds Try.pinned (OpenSpec.upto fnExactSineSpec)

/-- 'laws.FnExactTone', WHERE WHAT IT READS IS OF BULK AT MOST 1048576: true; the input reads as it did. -/
def fnExactToneUptoRow : OpenClaim := { program := "ytkfmmabamiommaa", sum := "9330d7f83e0fce8608f2054b9ac8e33de9bf6411262b1e7306376dafaa54b75f", func := "loop.example/g00043/laws.FnExactTone", spec := "fnExactTone", unfollowed := true, recurses := true, apart := false, narrowed := true }
def FnExactToneUptoSaid : Prop := fnExactToneUptoRow.holds Try.pinned (OpenSpec.upto fnExactToneSpec)

/-- 'laws.FnExactBin', WHERE WHAT IT READS IS OF BULK AT MOST 1048576: true; the input reads as it did. -/
def fnExactBinUptoRow : OpenClaim := { program := "ytkfmmabamiommaa", sum := "9330d7f83e0fce8608f2054b9ac8e33de9bf6411262b1e7306376dafaa54b75f", func := "loop.example/g00043/laws.FnExactBin", spec := "fnExactBin", unfollowed := true, recurses := true, apart := false, narrowed := true }
def FnExactBinUptoSaid : Prop := fnExactBinUptoRow.holds Try.pinned (OpenSpec.upto fnExactBinSpec)

/-- 'laws.FnExactTurn', WHERE WHAT IT READS IS OF BULK AT MOST 1048576: true; the input reads as it did. -/
def fnExactTurnUptoRow : OpenClaim := { program := "ytkfmmabamiommaa", sum := "9330d7f83e0fce8608f2054b9ac8e33de9bf6411262b1e7306376dafaa54b75f", func := "loop.example/g00043/laws.FnExactTurn", spec := "fnExactTurn", unfollowed := true, recurses := true, apart := false, narrowed := true }
def FnExactTurnUptoSaid : Prop := fnExactTurnUptoRow.holds Try.pinned (OpenSpec.upto fnExactTurnSpec)

/-- 'laws.FnExactWindow', WHERE WHAT IT READS IS OF BULK AT MOST 1048576: true; the input reads as it did. -/
def fnExactWindowUptoRow : OpenClaim := { program := "ytkfmmabamiommaa", sum := "9330d7f83e0fce8608f2054b9ac8e33de9bf6411262b1e7306376dafaa54b75f", func := "loop.example/g00043/laws.FnExactWindow", spec := "fnExactWindow", unfollowed := true, recurses := true, apart := false, narrowed := true }
def FnExactWindowUptoSaid : Prop := fnExactWindowUptoRow.holds Try.pinned (OpenSpec.upto fnExactWindowSpec)

end Rows
end Go.Proofs.Ytkfmmabamiommaa
