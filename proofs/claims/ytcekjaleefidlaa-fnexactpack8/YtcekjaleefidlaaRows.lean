/-
  No cell of these rows narrows 'for every input' (looked for: loops, veiled, ifaces, maps, wideKeys, modest, calm, conditions, laid).
  DERIVED. THE GIVEN ROWS OF THIS SEAT. 2 by the template 'for every input the law returns true; each argument reads behind the call as it read before'; 0 by the template 'total and deterministic' (their statements: YtcekjaleefidlaaTotals.lean).
  GIVEN WITH THE SEED: the statements are not yours to turn. If you find one false, say at which input.
  Laid BY PROGRAM, IN A SANDBOX (cutbox-rows.mjs): the forced cells as the released guide's own fill.sh prints them over the translation ccba09df7780bada… (all of the seat's roots in one cut). By AI agents, Wed Nov 11 2026. No macro, syntax, notation, axiom, sorry.
-/
import Derived.Test.YtcekjaleefidlaaChecked
import GoSem.Claim
import GoSem.ClaimJoined
import GoSem.ClaimMapViews
import Derived.JoinedTies
import Derived.KernelRfl
namespace Go.Proofs.Ytcekjaleefidlaa
/- THE CELL 'sum', in the pinned program and in every row, IS THE sha256 OF THE DUMP (.gsa) THAT YtcekjaleefidlaaProg.lean LOADS. Nothing in Lean hashes anything: it is a label: what it is worth is what the hold of that sum in a sandbox is worth. -/
noncomputable def Try.pinned : Pinned := { name := "ytcekjaleefidlaa", sum := "ccba09df7780badaa13b04f8722aec391171e8f92efb41e65048c98c72bdb582", checked := Try.checked }
namespace Rows
def none {H : Type} : Left H := { results := [], args := [] }

/-- 'laws.FnExactPack8': WHATEVER THE INPUT: true; the input reads as it did. -/
def fnExactPack8Spec : ChangeSpec := { name := "fnExactPack8", fn := fun _ => fun
  | [d] => { results := [.lit (.bool true)], args := [d] }
  | _ => none }
def fnExactPack8Row : OpenClaim := { program := "ytcekjaleefidlaa", sum := "ccba09df7780badaa13b04f8722aec391171e8f92efb41e65048c98c72bdb582", func := "loop.example/g00043/laws.FnExactPack8", spec := "fnExactPack8", apart := false }
def FnExactPack8Said : Prop := fnExactPack8Row.holds Try.pinned (OpenSpec.ofChange fnExactPack8Spec)

/-- ITS FALSE NEIGHBOUR: 'it returns false'. Refute it at one input. -/
def fnExactPack8Wrong : ChangeSpec := { name := "fnExactPack8", fn := fun _ => fun
  | [d] => { results := [.lit (.bool false)], args := [d] }
  | _ => none }
def FnExactPack8WrongFalsely : Prop := fnExactPack8Row.holds Try.pinned (OpenSpec.ofChange fnExactPack8Wrong)

/-- 'laws.FnExactUnpack8': WHATEVER THE INPUT: true; the input reads as it did. -/
def fnExactUnpack8Spec : ChangeSpec := { name := "fnExactUnpack8", fn := fun _ => fun
  | [d1, d2] => { results := [.lit (.bool true)], args := [d1, d2] }
  | _ => none }
def fnExactUnpack8Row : OpenClaim := { program := "ytcekjaleefidlaa", sum := "ccba09df7780badaa13b04f8722aec391171e8f92efb41e65048c98c72bdb582", func := "loop.example/g00043/laws.FnExactUnpack8", spec := "fnExactUnpack8", apart := false }
def FnExactUnpack8Said : Prop := fnExactUnpack8Row.holds Try.pinned (OpenSpec.ofChange fnExactUnpack8Spec)

/-- ITS FALSE NEIGHBOUR: 'it returns false'. Refute it at one input. -/
def fnExactUnpack8Wrong : ChangeSpec := { name := "fnExactUnpack8", fn := fun _ => fun
  | [d1, d2] => { results := [.lit (.bool false)], args := [d1, d2] }
  | _ => none }
def FnExactUnpack8WrongFalsely : Prop := fnExactUnpack8Row.holds Try.pinned (OpenSpec.ofChange fnExactUnpack8Wrong)

/- THE SECOND FORM. 'bulk': how many values and letters a reading holds, each counted each time it is reached (what is shared counts as often as it is met; a slice's spare places count too). A statement '..UptoSaid' is the law's where the arguments, and the package variables that the reading takes, are together of bulk at most 1048576: NARROWER than '..Said'. Prove '..Said' where nothing that the law and all that it calls make is longer than what came in: it says more and counts as full. Else prove '..UptoSaid'. A law counts once. -/
mutual
def uptoBulk {H : Type} : DataW H → Nat
  | .lit (.string bytes) => bytes.length + 1
  | .lit _ => 1
  | .nil => 1
  | .ptr d => uptoBulk d + 1
  | .slice elems spare => uptoBulkAll elems + uptoBulkAll spare + 1
  | .agg parts => uptoBulkAll parts + 1
  | .iface _ d => uptoBulk d + 1
  | .map entries => uptoBulkEntries entries + 1
  | .held _ => 1
def uptoBulkAll {H : Type} : List (DataW H) → Nat
  | [] => 0
  | d :: r => uptoBulk d + uptoBulkAll r
def uptoBulkEntries {H : Type} : List (Lit × DataW H) → Nat
  | [] => 0
  | x :: r => uptoBulkEntry x + uptoBulkEntries r
def uptoBulkEntry {H : Type} : Lit × DataW H → Nat
  | (.string bytes, d) => bytes.length + uptoBulk d + 1
  | (_, d) => uptoBulk d + 1
 end
def uptoSmall : (H : Type) → List (DataW H) → Bool := fun _ ds => decide (uptoBulkAll ds ≤ 1048576)
def OpenSpec.upto (s : _root_.Go.ChangeSpec) : _root_.Go.OpenSpec := { _root_.Go.OpenSpec.ofChange s with cond := some uptoSmall }

/-- 'laws.FnExactPack8', WHERE WHAT IT READS IS OF BULK AT MOST 1048576: true; the input reads as it did. -/
def fnExactPack8UptoRow : OpenClaim := { program := "ytcekjaleefidlaa", sum := "ccba09df7780badaa13b04f8722aec391171e8f92efb41e65048c98c72bdb582", func := "loop.example/g00043/laws.FnExactPack8", spec := "fnExactPack8", apart := false, narrowed := true }
def FnExactPack8UptoSaid : Prop := fnExactPack8UptoRow.holds Try.pinned (OpenSpec.upto fnExactPack8Spec)

/-- 'laws.FnExactUnpack8', WHERE WHAT IT READS IS OF BULK AT MOST 1048576: true; the input reads as it did. -/
def fnExactUnpack8UptoRow : OpenClaim := { program := "ytcekjaleefidlaa", sum := "ccba09df7780badaa13b04f8722aec391171e8f92efb41e65048c98c72bdb582", func := "loop.example/g00043/laws.FnExactUnpack8", spec := "fnExactUnpack8", apart := false, narrowed := true }
def FnExactUnpack8UptoSaid : Prop := fnExactUnpack8UptoRow.holds Try.pinned (OpenSpec.upto fnExactUnpack8Spec)

end Rows
end Go.Proofs.Ytcekjaleefidlaa
