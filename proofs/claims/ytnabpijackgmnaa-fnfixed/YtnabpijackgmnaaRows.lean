/-
  No cell of these rows narrows 'for every input' (looked for: loops, veiled, ifaces, maps, wideKeys, modest, calm, conditions, laid).
  DERIVED. THE GIVEN ROWS OF THIS SEAT. 5 by the template 'for every input the law returns true; each argument reads behind the call as it read before'; 0 by the template 'total and deterministic' (their statements: YtnabpijackgmnaaTotals.lean).
  GIVEN WITH THE SEED: the statements are not yours to turn. If you find one false, say at which input.
  Laid BY PROGRAM, IN A SANDBOX (cutbox-rows.mjs): the forced cells as the released guide's own fill.sh prints them over the translation c61052c5670d0bac… (all of the seat's roots in one cut). By AI agents, Wed Nov 11 2026. No macro, syntax, notation, axiom, sorry.
-/
import Derived.Test.YtnabpijackgmnaaChecked
import GoSem.Claim
import GoSem.ClaimJoined
import GoSem.ClaimMapViews
import Derived.JoinedTies
import Derived.KernelRfl
namespace Go.Proofs.Ytnabpijackgmnaa
/- THE CELL 'sum', in the pinned program and in every row, IS THE sha256 OF THE DUMP (.gsa) THAT YtnabpijackgmnaaProg.lean LOADS. Nothing in Lean hashes anything: it is a label: what it is worth is what the hold of that sum in a sandbox is worth. -/
noncomputable def Try.pinned : Pinned := { name := "ytnabpijackgmnaa", sum := "c61052c5670d0bac15fb56981e97ca039de955a1c49e8b0116baefa238b0e036", checked := Try.checked }
namespace Rows
def none {H : Type} : Left H := { results := [], args := [] }

/-- 'laws.FnRoundDiv': WHATEVER THE INPUT: true; the input reads as it did. -/
def fnRoundDivSpec : ChangeSpec := { name := "fnRoundDiv", fn := fun _ => fun
  | [d] => { results := [.lit (.bool true)], args := [d] }
  | _ => none }
def fnRoundDivRow : OpenClaim := { program := "ytnabpijackgmnaa", sum := "c61052c5670d0bac15fb56981e97ca039de955a1c49e8b0116baefa238b0e036", func := "loop.example/g00043/laws.FnRoundDiv", spec := "fnRoundDiv", apart := false }
def FnRoundDivSaid : Prop := fnRoundDivRow.holds Try.pinned (OpenSpec.ofChange fnRoundDivSpec)

/-- ITS FALSE NEIGHBOUR: 'it returns false'. Refute it at one input. -/
def fnRoundDivWrong : ChangeSpec := { name := "fnRoundDiv", fn := fun _ => fun
  | [d] => { results := [.lit (.bool false)], args := [d] }
  | _ => none }
def FnRoundDivWrongFalsely : Prop := fnRoundDivRow.holds Try.pinned (OpenSpec.ofChange fnRoundDivWrong)

/-- 'laws.FnCutOff': WHATEVER THE INPUT: true; the input reads as it did. -/
def fnCutOffSpec : ChangeSpec := { name := "fnCutOff", fn := fun _ => fun
  | [d] => { results := [.lit (.bool true)], args := [d] }
  | _ => none }
def fnCutOffRow : OpenClaim := { program := "ytnabpijackgmnaa", sum := "c61052c5670d0bac15fb56981e97ca039de955a1c49e8b0116baefa238b0e036", func := "loop.example/g00043/laws.FnCutOff", spec := "fnCutOff", apart := false }
def FnCutOffSaid : Prop := fnCutOffRow.holds Try.pinned (OpenSpec.ofChange fnCutOffSpec)

/-- ITS FALSE NEIGHBOUR: 'it returns false'. Refute it at one input. -/
def fnCutOffWrong : ChangeSpec := { name := "fnCutOff", fn := fun _ => fun
  | [d] => { results := [.lit (.bool false)], args := [d] }
  | _ => none }
def FnCutOffWrongFalsely : Prop := fnCutOffRow.holds Try.pinned (OpenSpec.ofChange fnCutOffWrong)

/-- 'laws.FnFixed': WHATEVER THE INPUT: true; the input reads as it did. -/
def fnFixedSpec : ChangeSpec := { name := "fnFixed", fn := fun _ => fun
  | [d] => { results := [.lit (.bool true)], args := [d] }
  | _ => none }
def fnFixedRow : OpenClaim := { program := "ytnabpijackgmnaa", sum := "c61052c5670d0bac15fb56981e97ca039de955a1c49e8b0116baefa238b0e036", func := "loop.example/g00043/laws.FnFixed", spec := "fnFixed", unfollowed := true, recurses := true, apart := false }
def FnFixedSaid : Prop := fnFixedRow.holds Try.pinned (OpenSpec.ofChange fnFixedSpec)

/-- ITS FALSE NEIGHBOUR: 'it returns false'. Refute it at one input. -/
def fnFixedWrong : ChangeSpec := { name := "fnFixed", fn := fun _ => fun
  | [d] => { results := [.lit (.bool false)], args := [d] }
  | _ => none }
def FnFixedWrongFalsely : Prop := fnFixedRow.holds Try.pinned (OpenSpec.ofChange fnFixedWrong)

/-- 'laws.FnShaped': WHATEVER THE INPUT: true; the input reads as it did. -/
def fnShapedSpec : ChangeSpec := { name := "fnShaped", fn := fun _ => fun
  | [d] => { results := [.lit (.bool true)], args := [d] }
  | _ => none }
def fnShapedRow : OpenClaim := { program := "ytnabpijackgmnaa", sum := "c61052c5670d0bac15fb56981e97ca039de955a1c49e8b0116baefa238b0e036", func := "loop.example/g00043/laws.FnShaped", spec := "fnShaped", apart := false }
def FnShapedSaid : Prop := fnShapedRow.holds Try.pinned (OpenSpec.ofChange fnShapedSpec)

/-- ITS FALSE NEIGHBOUR: 'it returns false'. Refute it at one input. -/
def fnShapedWrong : ChangeSpec := { name := "fnShaped", fn := fun _ => fun
  | [d] => { results := [.lit (.bool false)], args := [d] }
  | _ => none }
def FnShapedWrongFalsely : Prop := fnShapedRow.holds Try.pinned (OpenSpec.ofChange fnShapedWrong)

/-- 'laws.FnRamped': WHATEVER THE INPUT: true; the input reads as it did. -/
def fnRampedSpec : ChangeSpec := { name := "fnRamped", fn := fun _ => fun
  | [d] => { results := [.lit (.bool true)], args := [d] }
  | _ => none }
def fnRampedRow : OpenClaim := { program := "ytnabpijackgmnaa", sum := "c61052c5670d0bac15fb56981e97ca039de955a1c49e8b0116baefa238b0e036", func := "loop.example/g00043/laws.FnRamped", spec := "fnRamped", apart := false }
def FnRampedSaid : Prop := fnRampedRow.holds Try.pinned (OpenSpec.ofChange fnRampedSpec)

/-- ITS FALSE NEIGHBOUR: 'it returns false'. Refute it at one input. -/
def fnRampedWrong : ChangeSpec := { name := "fnRamped", fn := fun _ => fun
  | [d] => { results := [.lit (.bool false)], args := [d] }
  | _ => none }
def FnRampedWrongFalsely : Prop := fnRampedRow.holds Try.pinned (OpenSpec.ofChange fnRampedWrong)

/- THE SECOND FORM. 'bulk': how many values and letters a reading holds, each counted each time it is reached (what is shared counts as often as it is met; a slice's spare places count too). A statement '..UptoSaid' is the law's where the arguments, and the package variables that the reading takes, are together of bulk at most 1048576: NARROWER than '..Said'. Prove '..Said' where nothing that the law and all that it calls make is longer than what came in: it says more and counts as full. Else prove '..UptoSaid'. A law counts once. -/
mutual
def uptoBulk {H : Type} : DataW H → Nat
  | .lit (.string bytes) => bytes.length + 1
  | .lit _ => 1
  | .nil => 1
  | .ptr d => uptoBulk d + 1
  | .slice elems spare => uptoBulkAll elems + uptoBulkAll spare + 1
  | .agg parts => uptoBulkAll parts + 1
  | .iface _ d => uptoBulk d + 1
  | .map entries => uptoBulkEntries entries + 1
  | .held _ => 1
def uptoBulkAll {H : Type} : List (DataW H) → Nat
  | [] => 0
  | d :: r => uptoBulk d + uptoBulkAll r
def uptoBulkEntries {H : Type} : List (Lit × DataW H) → Nat
  | [] => 0
  | x :: r => uptoBulkEntry x + uptoBulkEntries r
def uptoBulkEntry {H : Type} : Lit × DataW H → Nat
  | (.string bytes, d) => bytes.length + uptoBulk d + 1
  | (_, d) => uptoBulk d + 1
 end
def uptoSmall : (H : Type) → List (DataW H) → Bool := fun _ ds => decide (uptoBulkAll ds ≤ 1048576)
def OpenSpec.upto (s : _root_.Go.ChangeSpec) : _root_.Go.OpenSpec := { _root_.Go.OpenSpec.ofChange s with cond := some uptoSmall }

/-- 'laws.FnRoundDiv', WHERE WHAT IT READS IS OF BULK AT MOST 1048576: true; the input reads as it did. -/
def fnRoundDivUptoRow : OpenClaim := { program := "ytnabpijackgmnaa", sum := "c61052c5670d0bac15fb56981e97ca039de955a1c49e8b0116baefa238b0e036", func := "loop.example/g00043/laws.FnRoundDiv", spec := "fnRoundDiv", apart := false, narrowed := true }
def FnRoundDivUptoSaid : Prop := fnRoundDivUptoRow.holds Try.pinned (OpenSpec.upto fnRoundDivSpec)

/-- 'laws.FnCutOff', WHERE WHAT IT READS IS OF BULK AT MOST 1048576: true; the input reads as it did. -/
def fnCutOffUptoRow : OpenClaim := { program := "ytnabpijackgmnaa", sum := "c61052c5670d0bac15fb56981e97ca039de955a1c49e8b0116baefa238b0e036", func := "loop.example/g00043/laws.FnCutOff", spec := "fnCutOff", apart := false, narrowed := true }
def FnCutOffUptoSaid : Prop := fnCutOffUptoRow.holds Try.pinned (OpenSpec.upto fnCutOffSpec)

/-- 'laws.FnFixed', WHERE WHAT IT READS IS OF BULK AT MOST 1048576: true; the input reads as it did. -/
def fnFixedUptoRow : OpenClaim := { program := "ytnabpijackgmnaa", sum := "c61052c5670d0bac15fb56981e97ca039de955a1c49e8b0116baefa238b0e036", func := "loop.example/g00043/laws.FnFixed", spec := "fnFixed", unfollowed := true, recurses := true, apart := false, narrowed := true }
def FnFixedUptoSaid : Prop := fnFixedUptoRow.holds Try.pinned (OpenSpec.upto fnFixedSpec)

/-- 'laws.FnShaped', WHERE WHAT IT READS IS OF BULK AT MOST 1048576: true; the input reads as it did. -/
def fnShapedUptoRow : OpenClaim := { program := "ytnabpijackgmnaa", sum := "c61052c5670d0bac15fb56981e97ca039de955a1c49e8b0116baefa238b0e036", func := "loop.example/g00043/laws.FnShaped", spec := "fnShaped", apart := false, narrowed := true }
def FnShapedUptoSaid : Prop := fnShapedUptoRow.holds Try.pinned (OpenSpec.upto fnShapedSpec)

/-- 'laws.FnRamped', WHERE WHAT IT READS IS OF BULK AT MOST 1048576: true; the input reads as it did. -/
def fnRampedUptoRow : OpenClaim := { program := "ytnabpijackgmnaa", sum := "c61052c5670d0bac15fb56981e97ca039de955a1c49e8b0116baefa238b0e036", func := "loop.example/g00043/laws.FnRamped", spec := "fnRamped", apart := false, narrowed := true }
def FnRampedUptoSaid : Prop := fnRampedUptoRow.holds Try.pinned (OpenSpec.upto fnRampedSpec)

end Rows
end Go.Proofs.Ytnabpijackgmnaa
