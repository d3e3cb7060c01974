/-
  No cell of these rows narrows 'for every input' (looked for: loops, veiled, ifaces, maps, wideKeys, modest, calm, conditions, laid).
  DERIVED. THE GIVEN ROWS OF THIS SEAT. 2 by the template 'for every input the law returns true; each argument reads behind the call as it read before'; 0 by the template 'total and deterministic' (their statements: YtainkpnkekombaaTotals.lean).
  GIVEN WITH THE SEED: the statements are not yours to turn. If you find one false, say at which input.
  Laid BY PROGRAM, IN A SANDBOX (cutbox-rows.mjs): the forced cells as the released guide's own fill.sh prints them over the translation 098b1e1b0dcc6503… (all of the seat's roots in one cut). By AI agents, Wed Nov 11 2026. No macro, syntax, notation, axiom, sorry.
-/
import Derived.Test.YtainkpnkekombaaChecked
import GoSem.Claim
import GoSem.ClaimJoined
import GoSem.ClaimMapViews
import Derived.JoinedTies
import Derived.KernelRfl
namespace Go.Proofs.Ytainkpnkekombaa
/- THE CELL 'sum', in the pinned program and in every row, IS THE sha256 OF THE DUMP (.gsa) THAT YtainkpnkekombaaProg.lean LOADS. Nothing in Lean hashes anything: it is a label: what it is worth is what the hold of that sum in a sandbox is worth. -/
noncomputable def Try.pinned : Pinned := { name := "ytainkpnkekombaa", sum := "098b1e1b0dcc65033bda40168b23e0df681209047d46e54a377a0b5975549143", checked := Try.checked }
namespace Rows
def none {H : Type} : Left H := { results := [], args := [] }

/-- 'laws.FnExactPolyPair': WHATEVER THE INPUT: true; the input reads as it did. -/
def fnExactPolyPairSpec : ChangeSpec := { name := "fnExactPolyPair", fn := fun _ => fun
  | [d1, d2] => { results := [.lit (.bool true)], args := [d1, d2] }
  | _ => none }
def fnExactPolyPairRow : OpenClaim := { program := "ytainkpnkekombaa", sum := "098b1e1b0dcc65033bda40168b23e0df681209047d46e54a377a0b5975549143", func := "loop.example/g00043/laws.FnExactPolyPair", spec := "fnExactPolyPair", unfollowed := true, recurses := true, apart := false }
def FnExactPolyPairSaid : Prop := fnExactPolyPairRow.holds Try.pinned (OpenSpec.ofChange fnExactPolyPairSpec)

/-- ITS FALSE NEIGHBOUR: 'it returns false'. Refute it at one input. -/
def fnExactPolyPairWrong : ChangeSpec := { name := "fnExactPolyPair", fn := fun _ => fun
  | [d1, d2] => { results := [.lit (.bool false)], args := [d1, d2] }
  | _ => none }
def FnExactPolyPairWrongFalsely : Prop := fnExactPolyPairRow.holds Try.pinned (OpenSpec.ofChange fnExactPolyPairWrong)

/-- 'laws.FnExactRootsTo': WHATEVER THE INPUT: true; the input reads as it did. -/
def fnExactRootsToSpec : ChangeSpec := { name := "fnExactRootsTo", fn := fun _ => fun
  | [d] => { results := [.lit (.bool true)], args := [d] }
  | _ => none }
def fnExactRootsToRow : OpenClaim := { program := "ytainkpnkekombaa", sum := "098b1e1b0dcc65033bda40168b23e0df681209047d46e54a377a0b5975549143", func := "loop.example/g00043/laws.FnExactRootsTo", spec := "fnExactRootsTo", unfollowed := true, recurses := true, apart := false }
def FnExactRootsToSaid : Prop := fnExactRootsToRow.holds Try.pinned (OpenSpec.ofChange fnExactRootsToSpec)

/-- ITS FALSE NEIGHBOUR: 'it returns false'. Refute it at one input. -/
def fnExactRootsToWrong : ChangeSpec := { name := "fnExactRootsTo", fn := fun _ => fun
  | [d] => { results := [.lit (.bool false)], args := [d] }
  | _ => none }
def FnExactRootsToWrongFalsely : Prop := fnExactRootsToRow.holds Try.pinned (OpenSpec.ofChange fnExactRootsToWrong)

/- THE SECOND FORM. 'bulk': how many values and letters a reading holds, each counted each time it is reached (what is shared counts as often as it is met; a slice's spare places count too). A statement '..UptoSaid' is the law's where the arguments, and the package variables that the reading takes, are together of bulk at most 1048576: NARROWER than '..Said'. Prove '..Said' where nothing that the law and all that it calls make is longer than what came in: it says more and counts as full. Else prove '..UptoSaid'. A law counts once. -/
mutual
def uptoBulk {H : Type} : DataW H → Nat
  | .lit (.string bytes) => bytes.length + 1
  | .lit _ => 1
  | .nil => 1
  | .ptr d => uptoBulk d + 1
  | .slice elems spare => uptoBulkAll elems + uptoBulkAll spare + 1
  | .agg parts => uptoBulkAll parts + 1
  | .iface _ d => uptoBulk d + 1
  | .map entries => uptoBulkEntries entries + 1
  | .held _ => 1
def uptoBulkAll {H : Type} : List (DataW H) → Nat
  | [] => 0
  | d :: r => uptoBulk d + uptoBulkAll r
def uptoBulkEntries {H : Type} : List (Lit × DataW H) → Nat
  | [] => 0
  | x :: r => uptoBulkEntry x + uptoBulkEntries r
def uptoBulkEntry {H : Type} : Lit × DataW H → Nat
  | (.string bytes, d) => bytes.length + uptoBulk d + 1
  | (_, d) => uptoBulk d + 1
 end
def uptoSmall : (H : Type) → List (DataW H) → Bool := fun _ ds => decide (uptoBulkAll ds ≤ 1048576)
def OpenSpec.upto (s : _root_.Go.ChangeSpec) : _root_.Go.OpenSpec := { _root_.Go.OpenSpec.ofChange s with cond := some uptoSmall }

/-- 'laws.FnExactPolyPair', WHERE WHAT IT READS IS OF BULK AT MOST 1048576: true; the input reads as it did. -/
def fnExactPolyPairUptoRow : OpenClaim := { program := "ytainkpnkekombaa", sum := "098b1e1b0dcc65033bda40168b23e0df681209047d46e54a377a0b5975549143", func := "loop.example/g00043/laws.FnExactPolyPair", spec := "fnExactPolyPair", unfollowed := true, recurses := true, apart := false, narrowed := true }
def FnExactPolyPairUptoSaid : Prop := fnExactPolyPairUptoRow.holds Try.pinned (OpenSpec.upto fnExactPolyPairSpec)

/-- 'laws.FnExactRootsTo', WHERE WHAT IT READS IS OF BULK AT MOST 1048576: true; the input reads as it did. -/
def fnExactRootsToUptoRow : OpenClaim := { program := "ytainkpnkekombaa", sum := "098b1e1b0dcc65033bda40168b23e0df681209047d46e54a377a0b5975549143", func := "loop.example/g00043/laws.FnExactRootsTo", spec := "fnExactRootsTo", unfollowed := true, recurses := true, apart := false, narrowed := true }
def FnExactRootsToUptoSaid : Prop := fnExactRootsToUptoRow.holds Try.pinned (OpenSpec.upto fnExactRootsToSpec)

end Rows
end Go.Proofs.Ytainkpnkekombaa
