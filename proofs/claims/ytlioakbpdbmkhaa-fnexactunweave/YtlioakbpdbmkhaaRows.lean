/-
  No cell of these rows narrows 'for every input' (looked for: loops, veiled, ifaces, maps, wideKeys, modest, calm, conditions, laid).
  DERIVED. THE GIVEN ROWS OF THIS SEAT. 2 by the template 'for every input the law returns true; each argument reads behind the call as it read before'; 0 by the template 'total and deterministic' (their statements: YtlioakbpdbmkhaaTotals.lean).
  GIVEN WITH THE SEED: the statements are not yours to turn. If you find one false, say at which input.
  Laid BY PROGRAM, IN A SANDBOX (cutbox-rows.mjs): the forced cells as the released guide's own fill.sh prints them over the translation 7ce976318f34c6cb… (all of the seat's roots in one cut). By AI agents, Wed Nov 11 2026. No macro, syntax, notation, axiom, sorry.
-/
import Derived.Test.YtlioakbpdbmkhaaChecked
import GoSem.Claim
import GoSem.ClaimJoined
import GoSem.ClaimMapViews
import Derived.JoinedTies
import Derived.KernelRfl
namespace Go.Proofs.Ytlioakbpdbmkhaa
/- THE CELL 'sum', in the pinned program and in every row, IS THE sha256 OF THE DUMP (.gsa) THAT YtlioakbpdbmkhaaProg.lean LOADS. Nothing in Lean hashes anything: it is a label: what it is worth is what the hold of that sum in a sandbox is worth. -/
noncomputable def Try.pinned : Pinned := { name := "ytlioakbpdbmkhaa", sum := "7ce976318f34c6cbc4c4811bfbf7f650d460d0f86a4ea1a304807a294975e153", checked := Try.checked }
namespace Rows
def none {H : Type} : Left H := { results := [], args := [] }

/-- 'laws.FnExactWeave': WHATEVER THE INPUT: true; the input reads as it did. -/
def fnExactWeaveSpec : ChangeSpec := { name := "fnExactWeave", fn := fun _ => fun
  | [d1, d2] => { results := [.lit (.bool true)], args := [d1, d2] }
  | _ => none }
def fnExactWeaveRow : OpenClaim := { program := "ytlioakbpdbmkhaa", sum := "7ce976318f34c6cbc4c4811bfbf7f650d460d0f86a4ea1a304807a294975e153", func := "loop.example/g00043/laws.FnExactWeave", spec := "fnExactWeave", apart := false }
def FnExactWeaveSaid : Prop := fnExactWeaveRow.holds Try.pinned (OpenSpec.ofChange fnExactWeaveSpec)

/-- ITS FALSE NEIGHBOUR: 'it returns false'. Refute it at one input. -/
def fnExactWeaveWrong : ChangeSpec := { name := "fnExactWeave", fn := fun _ => fun
  | [d1, d2] => { results := [.lit (.bool false)], args := [d1, d2] }
  | _ => none }
def FnExactWeaveWrongFalsely : Prop := fnExactWeaveRow.holds Try.pinned (OpenSpec.ofChange fnExactWeaveWrong)

/-- 'laws.FnExactUnweave': WHATEVER THE INPUT: true; the input reads as it did. -/
def fnExactUnweaveSpec : ChangeSpec := { name := "fnExactUnweave", fn := fun _ => fun
  | [d1, d2] => { results := [.lit (.bool true)], args := [d1, d2] }
  | _ => none }
def fnExactUnweaveRow : OpenClaim := { program := "ytlioakbpdbmkhaa", sum := "7ce976318f34c6cbc4c4811bfbf7f650d460d0f86a4ea1a304807a294975e153", func := "loop.example/g00043/laws.FnExactUnweave", spec := "fnExactUnweave", apart := false }
def FnExactUnweaveSaid : Prop := fnExactUnweaveRow.holds Try.pinned (OpenSpec.ofChange fnExactUnweaveSpec)

/-- ITS FALSE NEIGHBOUR: 'it returns false'. Refute it at one input. -/
def fnExactUnweaveWrong : ChangeSpec := { name := "fnExactUnweave", fn := fun _ => fun
  | [d1, d2] => { results := [.lit (.bool false)], args := [d1, d2] }
  | _ => none }
def FnExactUnweaveWrongFalsely : Prop := fnExactUnweaveRow.holds Try.pinned (OpenSpec.ofChange fnExactUnweaveWrong)

/- THE SECOND FORM. 'bulk': how many values and letters a reading holds, each counted each time it is reached (what is shared counts as often as it is met; a slice's spare places count too). A statement '..UptoSaid' is the law's where the arguments, and the package variables that the reading takes, are together of bulk at most 1048576: NARROWER than '..Said'. Prove '..Said' where nothing that the law and all that it calls make is longer than what came in: it says more and counts as full. Else prove '..UptoSaid'. A law counts once. -/
mutual
def uptoBulk {H : Type} : DataW H → Nat
  | .lit (.string bytes) => bytes.length + 1
  | .lit _ => 1
  | .nil => 1
  | .ptr d => uptoBulk d + 1
  | .slice elems spare => uptoBulkAll elems + uptoBulkAll spare + 1
  | .agg parts => uptoBulkAll parts + 1
  | .iface _ d => uptoBulk d + 1
  | .map entries => uptoBulkEntries entries + 1
  | .held _ => 1
def uptoBulkAll {H : Type} : List (DataW H) → Nat
  | [] => 0
  | d :: r => uptoBulk d + uptoBulkAll r
def uptoBulkEntries {H : Type} : List (Lit × DataW H) → Nat
  | [] => 0
  | x :: r => uptoBulkEntry x + uptoBulkEntries r
def uptoBulkEntry {H : Type} : Lit × DataW H → Nat
  | (.string bytes, d) => bytes.length + uptoBulk d + 1
  | (_, d) => uptoBulk d + 1
 end
def uptoSmall : (H : Type) → List (DataW H) → Bool := fun _ ds => decide (uptoBulkAll ds ≤ 1048576)
def OpenSpec.upto (s : _root_.Go.ChangeSpec) : _root_.Go.OpenSpec := { _root_.Go.OpenSpec.ofChange s with cond := some uptoSmall }

/-- 'laws.FnExactWeave', WHERE WHAT IT READS IS OF BULK AT MOST 1048576: true; the input reads as it did. -/
def fnExactWeaveUptoRow : OpenClaim := { program := "ytlioakbpdbmkhaa", sum := "7ce976318f34c6cbc4c4811bfbf7f650d460d0f86a4ea1a304807a294975e153", func := "loop.example/g00043/laws.FnExactWeave", spec := "fnExactWeave", apart := false, narrowed := true }
def FnExactWeaveUptoSaid : Prop := fnExactWeaveUptoRow.holds Try.pinned (OpenSpec.upto fnExactWeaveSpec)

/-- 'laws.FnExactUnweave', WHERE WHAT IT READS IS OF BULK AT MOST 1048576: true; the input reads as it did. -/
def fnExactUnweaveUptoRow : OpenClaim := { program := "ytlioakbpdbmkhaa", sum := "7ce976318f34c6cbc4c4811bfbf7f650d460d0f86a4ea1a304807a294975e153", func := "loop.example/g00043/laws.FnExactUnweave", spec := "fnExactUnweave", apart := false, narrowed := true }
def FnExactUnweaveUptoSaid : Prop := fnExactUnweaveUptoRow.holds Try.pinned (OpenSpec.upto fnExactUnweaveSpec)

end Rows
end Go.Proofs.Ytlioakbpdbmkhaa
