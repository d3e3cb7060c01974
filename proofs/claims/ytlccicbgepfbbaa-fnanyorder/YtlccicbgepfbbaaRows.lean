/-
  No cell of these rows narrows 'for every input' (looked for: loops, veiled, ifaces, maps, wideKeys, modest, calm, conditions, laid).
  DERIVED. THE GIVEN ROWS OF THIS SEAT. 6 by the template 'for every input the law returns true; each argument reads behind the call as it read before'; 0 by the template 'total and deterministic' (their statements: YtlccicbgepfbbaaTotals.lean).
  GIVEN WITH THE SEED: the statements are not yours to turn. If you find one false, say at which input.
  Laid BY PROGRAM, IN A SANDBOX (cutbox-rows.mjs): the forced cells as the released guide's own fill.sh prints them over the translation 67038d4792807850… (all of the seat's roots in one cut). By AI agents, Wed Nov 11 2026. No macro, syntax, notation, axiom, sorry.
-/
import Derived.Test.YtlccicbgepfbbaaChecked
import GoSem.Claim
import GoSem.ClaimJoined
import GoSem.ClaimMapViews
import Derived.JoinedTies
import Derived.KernelRfl
namespace Go.Proofs.Ytlccicbgepfbbaa
/- THE CELL 'sum', in the pinned program and in every row, IS THE sha256 OF THE DUMP (.gsa) THAT YtlccicbgepfbbaaProg.lean LOADS. Nothing in Lean hashes anything: it is a label: what it is worth is what the hold of that sum in a sandbox is worth. -/
noncomputable def Try.pinned : Pinned := { name := "ytlccicbgepfbbaa", sum := "67038d479280785050ce64a7cdf787b819c70ccdda35d9a4c21a3025426d6155", checked := Try.checked }
namespace Rows
def none {H : Type} : Left H := { results := [], args := [] }

/-- 'laws.FnBalanced': WHATEVER THE INPUT: true; the input reads as it did. -/
def fnBalancedSpec : ChangeSpec := { name := "fnBalanced", fn := fun _ => fun
  | [d] => { results := [.lit (.bool true)], args := [d] }
  | _ => none }
def fnBalancedRow : OpenClaim := { program := "ytlccicbgepfbbaa", sum := "67038d479280785050ce64a7cdf787b819c70ccdda35d9a4c21a3025426d6155", func := "loop.example/g00043/laws.FnBalanced", spec := "fnBalanced", recurses := true, apart := false }
def FnBalancedSaid : Prop := fnBalancedRow.holds Try.pinned (OpenSpec.ofChange fnBalancedSpec)

/-- ITS FALSE NEIGHBOUR: 'it returns false'. Refute it at one input. -/
def fnBalancedWrong : ChangeSpec := { name := "fnBalanced", fn := fun _ => fun
  | [d] => { results := [.lit (.bool false)], args := [d] }
  | _ => none }
def FnBalancedWrongFalsely : Prop := fnBalancedRow.holds Try.pinned (OpenSpec.ofChange fnBalancedWrong)

/-- 'laws.FnAnyOrder': WHATEVER THE INPUT: true; the input reads as it did. -/
def fnAnyOrderSpec : ChangeSpec := { name := "fnAnyOrder", fn := fun _ => fun
  | [d] => { results := [.lit (.bool true)], args := [d] }
  | _ => none }
def fnAnyOrderRow : OpenClaim := { program := "ytlccicbgepfbbaa", sum := "67038d479280785050ce64a7cdf787b819c70ccdda35d9a4c21a3025426d6155", func := "loop.example/g00043/laws.FnAnyOrder", spec := "fnAnyOrder", recurses := true, apart := false }
def FnAnyOrderSaid : Prop := fnAnyOrderRow.holds Try.pinned (OpenSpec.ofChange fnAnyOrderSpec)

/-- ITS FALSE NEIGHBOUR: 'it returns false'. Refute it at one input. -/
def fnAnyOrderWrong : ChangeSpec := { name := "fnAnyOrder", fn := fun _ => fun
  | [d] => { results := [.lit (.bool false)], args := [d] }
  | _ => none }
def FnAnyOrderWrongFalsely : Prop := fnAnyOrderRow.holds Try.pinned (OpenSpec.ofChange fnAnyOrderWrong)

/-- 'laws.FnWavesLine': WHATEVER THE INPUT: true; the input reads as it did. -/
def fnWavesLineSpec : ChangeSpec := { name := "fnWavesLine", fn := fun _ => fun
  | [d] => { results := [.lit (.bool true)], args := [d] }
  | _ => none }
def fnWavesLineRow : OpenClaim := { program := "ytlccicbgepfbbaa", sum := "67038d479280785050ce64a7cdf787b819c70ccdda35d9a4c21a3025426d6155", func := "loop.example/g00043/laws.FnWavesLine", spec := "fnWavesLine", unfollowed := true, recurses := true, apart := false }
def FnWavesLineSaid : Prop := fnWavesLineRow.holds Try.pinned (OpenSpec.ofChange fnWavesLineSpec)

/-- ITS FALSE NEIGHBOUR: 'it returns false'. Refute it at one input. -/
def fnWavesLineWrong : ChangeSpec := { name := "fnWavesLine", fn := fun _ => fun
  | [d] => { results := [.lit (.bool false)], args := [d] }
  | _ => none }
def FnWavesLineWrongFalsely : Prop := fnWavesLineRow.holds Try.pinned (OpenSpec.ofChange fnWavesLineWrong)

/-- 'laws.FnExactWiresOk': WHATEVER THE INPUT: true; the input reads as it did. -/
def fnExactWiresOkSpec : ChangeSpec := { name := "fnExactWiresOk", fn := fun _ => fun
  | [d1, d2] => { results := [.lit (.bool true)], args := [d1, d2] }
  | _ => none }
def fnExactWiresOkRow : OpenClaim := { program := "ytlccicbgepfbbaa", sum := "67038d479280785050ce64a7cdf787b819c70ccdda35d9a4c21a3025426d6155", func := "loop.example/g00043/laws.FnExactWiresOk", spec := "fnExactWiresOk", apart := false }
def FnExactWiresOkSaid : Prop := fnExactWiresOkRow.holds Try.pinned (OpenSpec.ofChange fnExactWiresOkSpec)

/-- ITS FALSE NEIGHBOUR: 'it returns false'. Refute it at one input. -/
def fnExactWiresOkWrong : ChangeSpec := { name := "fnExactWiresOk", fn := fun _ => fun
  | [d1, d2] => { results := [.lit (.bool false)], args := [d1, d2] }
  | _ => none }
def FnExactWiresOkWrongFalsely : Prop := fnExactWiresOkRow.holds Try.pinned (OpenSpec.ofChange fnExactWiresOkWrong)

/-- 'laws.FnExactBalance': WHATEVER THE INPUT: true; the input reads as it did. -/
def fnExactBalanceSpec : ChangeSpec := { name := "fnExactBalance", fn := fun _ => fun
  | [d1, d2] => { results := [.lit (.bool true)], args := [d1, d2] }
  | _ => none }
def fnExactBalanceRow : OpenClaim := { program := "ytlccicbgepfbbaa", sum := "67038d479280785050ce64a7cdf787b819c70ccdda35d9a4c21a3025426d6155", func := "loop.example/g00043/laws.FnExactBalance", spec := "fnExactBalance", apart := false }
def FnExactBalanceSaid : Prop := fnExactBalanceRow.holds Try.pinned (OpenSpec.ofChange fnExactBalanceSpec)

/-- ITS FALSE NEIGHBOUR: 'it returns false'. Refute it at one input. -/
def fnExactBalanceWrong : ChangeSpec := { name := "fnExactBalance", fn := fun _ => fun
  | [d1, d2] => { results := [.lit (.bool false)], args := [d1, d2] }
  | _ => none }
def FnExactBalanceWrongFalsely : Prop := fnExactBalanceRow.holds Try.pinned (OpenSpec.ofChange fnExactBalanceWrong)

/-- 'laws.FnExactFire': WHATEVER THE INPUT: true; the input reads as it did. -/
def fnExactFireSpec : ChangeSpec := { name := "fnExactFire", fn := fun _ => fun
  | [d1, d2, d3] => { results := [.lit (.bool true)], args := [d1, d2, d3] }
  | _ => none }
def fnExactFireRow : OpenClaim := { program := "ytlccicbgepfbbaa", sum := "67038d479280785050ce64a7cdf787b819c70ccdda35d9a4c21a3025426d6155", func := "loop.example/g00043/laws.FnExactFire", spec := "fnExactFire", apart := false }
def FnExactFireSaid : Prop := fnExactFireRow.holds Try.pinned (OpenSpec.ofChange fnExactFireSpec)

/-- ITS FALSE NEIGHBOUR: 'it returns false'. Refute it at one input. -/
def fnExactFireWrong : ChangeSpec := { name := "fnExactFire", fn := fun _ => fun
  | [d1, d2, d3] => { results := [.lit (.bool false)], args := [d1, d2, d3] }
  | _ => none }
def FnExactFireWrongFalsely : Prop := fnExactFireRow.holds Try.pinned (OpenSpec.ofChange fnExactFireWrong)

/- THE SECOND FORM. 'bulk': how many values and letters a reading holds, each counted each time it is reached (what is shared counts as often as it is met; a slice's spare places count too). A statement '..UptoSaid' is the law's where the arguments, and the package variables that the reading takes, are together of bulk at most 1048576: NARROWER than '..Said'. Prove '..Said' where nothing that the law and all that it calls make is longer than what came in: it says more and counts as full. Else prove '..UptoSaid'. A law counts once. -/
mutual
def uptoBulk {H : Type} : DataW H → Nat
  | .lit (.string bytes) => bytes.length + 1
  | .lit _ => 1
  | .nil => 1
  | .ptr d => uptoBulk d + 1
  | .slice elems spare => uptoBulkAll elems + uptoBulkAll spare + 1
  | .agg parts => uptoBulkAll parts + 1
  | .iface _ d => uptoBulk d + 1
  | .map entries => uptoBulkEntries entries + 1
  | .held _ => 1
def uptoBulkAll {H : Type} : List (DataW H) → Nat
  | [] => 0
  | d :: r => uptoBulk d + uptoBulkAll r
def uptoBulkEntries {H : Type} : List (Lit × DataW H) → Nat
  | [] => 0
  | x :: r => uptoBulkEntry x + uptoBulkEntries r
def uptoBulkEntry {H : Type} : Lit × DataW H → Nat
  | (.string bytes, d) => bytes.length + uptoBulk d + 1
  | (_, d) => uptoBulk d + 1
 end
def uptoSmall : (H : Type) → List (DataW H) → Bool := fun _ ds => decide (uptoBulkAll ds ≤ 1048576)
def OpenSpec.upto (s : _root_.Go.ChangeSpec) : _root_.Go.OpenSpec := { _root_.Go.OpenSpec.ofChange s with cond := some uptoSmall }

/-- 'laws.FnBalanced', WHERE WHAT IT READS IS OF BULK AT MOST 1048576: true; the input reads as it did. -/
def fnBalancedUptoRow : OpenClaim := { program := "ytlccicbgepfbbaa", sum := "67038d479280785050ce64a7cdf787b819c70ccdda35d9a4c21a3025426d6155", func := "loop.example/g00043/laws.FnBalanced", spec := "fnBalanced", recurses := true, apart := false, narrowed := true }
def FnBalancedUptoSaid : Prop := fnBalancedUptoRow.holds Try.pinned (OpenSpec.upto fnBalancedSpec)

/-- 'laws.FnAnyOrder', WHERE WHAT IT READS IS OF BULK AT MOST 1048576: true; the input reads as it did. -/
def fnAnyOrderUptoRow : OpenClaim := { program := "ytlccicbgepfbbaa", sum := "67038d479280785050ce64a7cdf787b819c70ccdda35d9a4c21a3025426d6155", func := "loop.example/g00043/laws.FnAnyOrder", spec := "fnAnyOrder", recurses := true, apart := false, narrowed := true }
def FnAnyOrderUptoSaid : Prop := fnAnyOrderUptoRow.holds Try.pinned (OpenSpec.upto fnAnyOrderSpec)

/-- 'laws.FnWavesLine', WHERE WHAT IT READS IS OF BULK AT MOST 1048576: true; the input reads as it did. -/
def fnWavesLineUptoRow : OpenClaim := { program := "ytlccicbgepfbbaa", sum := "67038d479280785050ce64a7cdf787b819c70ccdda35d9a4c21a3025426d6155", func := "loop.example/g00043/laws.FnWavesLine", spec := "fnWavesLine", unfollowed := true, recurses := true, apart := false, narrowed := true }
def FnWavesLineUptoSaid : Prop := fnWavesLineUptoRow.holds Try.pinned (OpenSpec.upto fnWavesLineSpec)

/-- 'laws.FnExactWiresOk', WHERE WHAT IT READS IS OF BULK AT MOST 1048576: true; the input reads as it did. -/
def fnExactWiresOkUptoRow : OpenClaim := { program := "ytlccicbgepfbbaa", sum := "67038d479280785050ce64a7cdf787b819c70ccdda35d9a4c21a3025426d6155", func := "loop.example/g00043/laws.FnExactWiresOk", spec := "fnExactWiresOk", apart := false, narrowed := true }
def FnExactWiresOkUptoSaid : Prop := fnExactWiresOkUptoRow.holds Try.pinned (OpenSpec.upto fnExactWiresOkSpec)

/-- 'laws.FnExactBalance', WHERE WHAT IT READS IS OF BULK AT MOST 1048576: true; the input reads as it did. -/
def fnExactBalanceUptoRow : OpenClaim := { program := "ytlccicbgepfbbaa", sum := "67038d479280785050ce64a7cdf787b819c70ccdda35d9a4c21a3025426d6155", func := "loop.example/g00043/laws.FnExactBalance", spec := "fnExactBalance", apart := false, narrowed := true }
def FnExactBalanceUptoSaid : Prop := fnExactBalanceUptoRow.holds Try.pinned (OpenSpec.upto fnExactBalanceSpec)

/-- 'laws.FnExactFire', WHERE WHAT IT READS IS OF BULK AT MOST 1048576: true; the input reads as it did. -/
def fnExactFireUptoRow : OpenClaim := { program := "ytlccicbgepfbbaa", sum := "67038d479280785050ce64a7cdf787b819c70ccdda35d9a4c21a3025426d6155", func := "loop.example/g00043/laws.FnExactFire", spec := "fnExactFire", apart := false, narrowed := true }
def FnExactFireUptoSaid : Prop := fnExactFireUptoRow.holds Try.pinned (OpenSpec.upto fnExactFireSpec)

end Rows
end Go.Proofs.Ytlccicbgepfbbaa
