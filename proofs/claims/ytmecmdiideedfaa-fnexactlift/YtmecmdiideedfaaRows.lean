/-
  No cell of these rows narrows 'for every input' (looked for: loops, veiled, ifaces, maps, wideKeys, modest, calm, conditions, laid).
  DERIVED. THE GIVEN ROWS OF THIS SEAT. 4 by the template 'for every input the law returns true; each argument reads behind the call as it read before'; 0 by the template 'total and deterministic' (their statements: YtmecmdiideedfaaTotals.lean).
  GIVEN WITH THE SEED: the statements are not yours to turn. If you find one false, say at which input.
  Laid BY PROGRAM, IN A SANDBOX (cutbox-rows.mjs): the forced cells as the released guide's own fill.sh prints them over the translation 224ddd6bb0b04123… (all of the seat's roots in one cut). By AI agents, Wed Nov 11 2026. No macro, syntax, notation, axiom, sorry.
-/
import Derived.Test.YtmecmdiideedfaaChecked
import GoSem.Claim
import GoSem.ClaimJoined
import GoSem.ClaimMapViews
import Derived.JoinedTies
import Derived.KernelRfl
namespace Go.Proofs.Ytmecmdiideedfaa
/- THE CELL 'sum', in the pinned program and in every row, IS THE sha256 OF THE DUMP (.gsa) THAT YtmecmdiideedfaaProg.lean LOADS. Nothing in Lean hashes anything: it is a label: what it is worth is what the hold of that sum in a sandbox is worth. -/
noncomputable def Try.pinned : Pinned := { name := "ytmecmdiideedfaa", sum := "224ddd6bb0b04123f8fab5f46435087d891d9b846094d279ca352b0fb78393f7", checked := Try.checked }
namespace Rows
def none {H : Type} : Left H := { results := [], args := [] }

/-- 'laws.FnExactLiftOnce': WHATEVER THE INPUT: true; the input reads as it did. -/
def fnExactLiftOnceSpec : ChangeSpec := { name := "fnExactLiftOnce", fn := fun _ => fun
  | [d1, d2] => { results := [.lit (.bool true)], args := [d1, d2] }
  | _ => none }
def fnExactLiftOnceRow : OpenClaim := { program := "ytmecmdiideedfaa", sum := "224ddd6bb0b04123f8fab5f46435087d891d9b846094d279ca352b0fb78393f7", func := "loop.example/g00043/laws.FnExactLiftOnce", spec := "fnExactLiftOnce", unfollowed := true, recurses := true, apart := false }
def FnExactLiftOnceSaid : Prop := fnExactLiftOnceRow.holds Try.pinned (OpenSpec.ofChange fnExactLiftOnceSpec)

/-- ITS FALSE NEIGHBOUR: 'it returns false'. Refute it at one input. -/
def fnExactLiftOnceWrong : ChangeSpec := { name := "fnExactLiftOnce", fn := fun _ => fun
  | [d1, d2] => { results := [.lit (.bool false)], args := [d1, d2] }
  | _ => none }
def FnExactLiftOnceWrongFalsely : Prop := fnExactLiftOnceRow.holds Try.pinned (OpenSpec.ofChange fnExactLiftOnceWrong)

/-- 'laws.FnExactLiftBack': WHATEVER THE INPUT: true; the input reads as it did. -/
def fnExactLiftBackSpec : ChangeSpec := { name := "fnExactLiftBack", fn := fun _ => fun
  | [d1, d2, d3] => { results := [.lit (.bool true)], args := [d1, d2, d3] }
  | _ => none }
def fnExactLiftBackRow : OpenClaim := { program := "ytmecmdiideedfaa", sum := "224ddd6bb0b04123f8fab5f46435087d891d9b846094d279ca352b0fb78393f7", func := "loop.example/g00043/laws.FnExactLiftBack", spec := "fnExactLiftBack", unfollowed := true, recurses := true, apart := false }
def FnExactLiftBackSaid : Prop := fnExactLiftBackRow.holds Try.pinned (OpenSpec.ofChange fnExactLiftBackSpec)

/-- ITS FALSE NEIGHBOUR: 'it returns false'. Refute it at one input. -/
def fnExactLiftBackWrong : ChangeSpec := { name := "fnExactLiftBack", fn := fun _ => fun
  | [d1, d2, d3] => { results := [.lit (.bool false)], args := [d1, d2, d3] }
  | _ => none }
def FnExactLiftBackWrongFalsely : Prop := fnExactLiftBackRow.holds Try.pinned (OpenSpec.ofChange fnExactLiftBackWrong)

/-- 'laws.FnExactLift': WHATEVER THE INPUT: true; the input reads as it did. -/
def fnExactLiftSpec : ChangeSpec := { name := "fnExactLift", fn := fun _ => fun
  | [d1, d2, d3] => { results := [.lit (.bool true)], args := [d1, d2, d3] }
  | _ => none }
def fnExactLiftRow : OpenClaim := { program := "ytmecmdiideedfaa", sum := "224ddd6bb0b04123f8fab5f46435087d891d9b846094d279ca352b0fb78393f7", func := "loop.example/g00043/laws.FnExactLift", spec := "fnExactLift", unfollowed := true, recurses := true, apart := false }
def FnExactLiftSaid : Prop := fnExactLiftRow.holds Try.pinned (OpenSpec.ofChange fnExactLiftSpec)

/-- ITS FALSE NEIGHBOUR: 'it returns false'. Refute it at one input. -/
def fnExactLiftWrong : ChangeSpec := { name := "fnExactLift", fn := fun _ => fun
  | [d1, d2, d3] => { results := [.lit (.bool false)], args := [d1, d2, d3] }
  | _ => none }
def FnExactLiftWrongFalsely : Prop := fnExactLiftRow.holds Try.pinned (OpenSpec.ofChange fnExactLiftWrong)

/-- 'laws.FnExactQuiet': WHATEVER THE INPUT: true; the input reads as it did. -/
def fnExactQuietSpec : ChangeSpec := { name := "fnExactQuiet", fn := fun _ => fun
  | [d1, d2] => { results := [.lit (.bool true)], args := [d1, d2] }
  | _ => none }
def fnExactQuietRow : OpenClaim := { program := "ytmecmdiideedfaa", sum := "224ddd6bb0b04123f8fab5f46435087d891d9b846094d279ca352b0fb78393f7", func := "loop.example/g00043/laws.FnExactQuiet", spec := "fnExactQuiet", apart := false }
def FnExactQuietSaid : Prop := fnExactQuietRow.holds Try.pinned (OpenSpec.ofChange fnExactQuietSpec)

/-- ITS FALSE NEIGHBOUR: 'it returns false'. Refute it at one input. -/
def fnExactQuietWrong : ChangeSpec := { name := "fnExactQuiet", fn := fun _ => fun
  | [d1, d2] => { results := [.lit (.bool false)], args := [d1, d2] }
  | _ => none }
def FnExactQuietWrongFalsely : Prop := fnExactQuietRow.holds Try.pinned (OpenSpec.ofChange fnExactQuietWrong)

/- THE SECOND FORM. 'bulk': how many values and letters a reading holds, each counted each time it is reached (what is shared counts as often as it is met; a slice's spare places count too). A statement '..UptoSaid' is the law's where the arguments, and the package variables that the reading takes, are together of bulk at most 1048576: NARROWER than '..Said'. Prove '..Said' where nothing that the law and all that it calls make is longer than what came in: it says more and counts as full. Else prove '..UptoSaid'. A law counts once. -/
mutual
def uptoBulk {H : Type} : DataW H → Nat
  | .lit (.string bytes) => bytes.length + 1
  | .lit _ => 1
  | .nil => 1
  | .ptr d => uptoBulk d + 1
  | .slice elems spare => uptoBulkAll elems + uptoBulkAll spare + 1
  | .agg parts => uptoBulkAll parts + 1
  | .iface _ d => uptoBulk d + 1
  | .map entries => uptoBulkEntries entries + 1
  | .held _ => 1
def uptoBulkAll {H : Type} : List (DataW H) → Nat
  | [] => 0
  | d :: r => uptoBulk d + uptoBulkAll r
def uptoBulkEntries {H : Type} : List (Lit × DataW H) → Nat
  | [] => 0
  | x :: r => uptoBulkEntry x + uptoBulkEntries r
def uptoBulkEntry {H : Type} : Lit × DataW H → Nat
  | (.string bytes, d) => bytes.length + uptoBulk d + 1
  | (_, d) => uptoBulk d + 1
 end
def uptoSmall : (H : Type) → List (DataW H) → Bool := fun _ ds => decide (uptoBulkAll ds ≤ 1048576)
def OpenSpec.upto (s : _root_.Go.ChangeSpec) : _root_.Go.OpenSpec := { _root_.Go.OpenSpec.ofChange s with cond := some uptoSmall }

/-- 'laws.FnExactLiftOnce', WHERE WHAT IT READS IS OF BULK AT MOST 1048576: true; the input reads as it did. -/
def fnExactLiftOnceUptoRow : OpenClaim := { program := "ytmecmdiideedfaa", sum := "224ddd6bb0b04123f8fab5f46435087d891d9b846094d279ca352b0fb78393f7", func := "loop.example/g00043/laws.FnExactLiftOnce", spec := "fnExactLiftOnce", unfollowed := true, recurses := true, apart := false, narrowed := true }
def FnExactLiftOnceUptoSaid : Prop := fnExactLiftOnceUptoRow.holds Try.pinned (OpenSpec.upto fnExactLiftOnceSpec)

/-- 'laws.FnExactLiftBack', WHERE WHAT IT READS IS OF BULK AT MOST 1048576: true; the input reads as it did. -/
def fnExactLiftBackUptoRow : OpenClaim := { program := "ytmecmdiideedfaa", sum := "224ddd6bb0b04123f8fab5f46435087d891d9b846094d279ca352b0fb78393f7", func := "loop.example/g00043/laws.FnExactLiftBack", spec := "fnExactLiftBack", unfollowed := true, recurses := true, apart := false, narrowed := true }
def FnExactLiftBackUptoSaid : Prop := fnExactLiftBackUptoRow.holds Try.pinned (OpenSpec.upto fnExactLiftBackSpec)

/-- 'laws.FnExactLift', WHERE WHAT IT READS IS OF BULK AT MOST 1048576: true; the input reads as it did. -/
def fnExactLiftUptoRow : OpenClaim := { program := "ytmecmdiideedfaa", sum := "224ddd6bb0b04123f8fab5f46435087d891d9b846094d279ca352b0fb78393f7", func := "loop.example/g00043/laws.FnExactLift", spec := "fnExactLift", unfollowed := true, recurses := true, apart := false, narrowed := true }
def FnExactLiftUptoSaid : Prop := fnExactLiftUptoRow.holds Try.pinned (OpenSpec.upto fnExactLiftSpec)

/-- 'laws.FnExactQuiet', WHERE WHAT IT READS IS OF BULK AT MOST 1048576: true; the input reads as it did. -/
def fnExactQuietUptoRow : OpenClaim := { program := "ytmecmdiideedfaa", sum := "224ddd6bb0b04123f8fab5f46435087d891d9b846094d279ca352b0fb78393f7", func := "loop.example/g00043/laws.FnExactQuiet", spec := "fnExactQuiet", apart := false, narrowed := true }
def FnExactQuietUptoSaid : Prop := fnExactQuietUptoRow.holds Try.pinned (OpenSpec.upto fnExactQuietSpec)

end Rows
end Go.Proofs.Ytmecmdiideedfaa
