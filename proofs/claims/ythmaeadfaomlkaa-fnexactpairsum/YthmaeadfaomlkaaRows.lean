/-
  No cell of these rows narrows 'for every input' (looked for: loops, veiled, ifaces, maps, wideKeys, modest, calm, conditions, laid).
  DERIVED. THE GIVEN ROWS OF THIS SEAT. 6 by the template 'for every input the law returns true; each argument reads behind the call as it read before'; 0 by the template 'total and deterministic' (their statements: YthmaeadfaomlkaaTotals.lean).
  GIVEN WITH THE SEED: the statements are not yours to turn. If you find one false, say at which input.
  Laid BY PROGRAM, IN A SANDBOX (cutbox-rows.mjs): the forced cells as the released guide's own fill.sh prints them over the translation ba0182fc767a949c… (all of the seat's roots in one cut). By AI agents, Wed Nov 11 2026. No macro, syntax, notation, axiom, sorry.
-/
import Derived.Test.YthmaeadfaomlkaaChecked
import GoSem.Claim
import GoSem.ClaimJoined
import GoSem.ClaimMapViews
import Derived.JoinedTies
import Derived.KernelRfl
namespace Go.Proofs.Ythmaeadfaomlkaa
/- THE CELL 'sum', in the pinned program and in every row, IS THE sha256 OF THE DUMP (.gsa) THAT YthmaeadfaomlkaaProg.lean LOADS. Nothing in Lean hashes anything: it is a label: what it is worth is what the hold of that sum in a sandbox is worth. -/
noncomputable def Try.pinned : Pinned := { name := "ythmaeadfaomlkaa", sum := "ba0182fc767a949c4a4797ebd054688f6992751c776618adb84bff82df421154", checked := Try.checked }
namespace Rows
def none {H : Type} : Left H := { results := [], args := [] }

/-- 'laws.FnExactSum': WHATEVER THE INPUT: true; the input reads as it did. -/
def fnExactSumSpec : ChangeSpec := { name := "fnExactSum", fn := fun _ => fun
  | [d] => { results := [.lit (.bool true)], args := [d] }
  | _ => none }
def fnExactSumRow : OpenClaim := { program := "ythmaeadfaomlkaa", sum := "ba0182fc767a949c4a4797ebd054688f6992751c776618adb84bff82df421154", func := "loop.example/g00043/laws.FnExactSum", spec := "fnExactSum", unfollowed := true, recurses := true, apart := false }
def FnExactSumSaid : Prop := fnExactSumRow.holds Try.pinned (OpenSpec.ofChange fnExactSumSpec)

/-- ITS FALSE NEIGHBOUR: 'it returns false'. Refute it at one input. -/
def fnExactSumWrong : ChangeSpec := { name := "fnExactSum", fn := fun _ => fun
  | [d] => { results := [.lit (.bool false)], args := [d] }
  | _ => none }
def FnExactSumWrongFalsely : Prop := fnExactSumRow.holds Try.pinned (OpenSpec.ofChange fnExactSumWrong)

/-- 'laws.FnExactPairSum': WHATEVER THE INPUT: true; the input reads as it did. -/
def fnExactPairSumSpec : ChangeSpec := { name := "fnExactPairSum", fn := fun _ => fun
  | [d] => { results := [.lit (.bool true)], args := [d] }
  | _ => none }
def fnExactPairSumRow : OpenClaim := { program := "ythmaeadfaomlkaa", sum := "ba0182fc767a949c4a4797ebd054688f6992751c776618adb84bff82df421154", func := "loop.example/g00043/laws.FnExactPairSum", spec := "fnExactPairSum", recurses := true, apart := false }
def FnExactPairSumSaid : Prop := fnExactPairSumRow.holds Try.pinned (OpenSpec.ofChange fnExactPairSumSpec)

/-- ITS FALSE NEIGHBOUR: 'it returns false'. Refute it at one input. -/
def fnExactPairSumWrong : ChangeSpec := { name := "fnExactPairSum", fn := fun _ => fun
  | [d] => { results := [.lit (.bool false)], args := [d] }
  | _ => none }
def FnExactPairSumWrongFalsely : Prop := fnExactPairSumRow.holds Try.pinned (OpenSpec.ofChange fnExactPairSumWrong)

/-- 'laws.FnExactCareSum': WHATEVER THE INPUT: true; the input reads as it did. -/
def fnExactCareSumSpec : ChangeSpec := { name := "fnExactCareSum", fn := fun _ => fun
  | [d] => { results := [.lit (.bool true)], args := [d] }
  | _ => none }
def fnExactCareSumRow : OpenClaim := { program := "ythmaeadfaomlkaa", sum := "ba0182fc767a949c4a4797ebd054688f6992751c776618adb84bff82df421154", func := "loop.example/g00043/laws.FnExactCareSum", spec := "fnExactCareSum", unfollowed := true, recurses := true, apart := false }
def FnExactCareSumSaid : Prop := fnExactCareSumRow.holds Try.pinned (OpenSpec.ofChange fnExactCareSumSpec)

/-- ITS FALSE NEIGHBOUR: 'it returns false'. Refute it at one input. -/
def fnExactCareSumWrong : ChangeSpec := { name := "fnExactCareSum", fn := fun _ => fun
  | [d] => { results := [.lit (.bool false)], args := [d] }
  | _ => none }
def FnExactCareSumWrongFalsely : Prop := fnExactCareSumRow.holds Try.pinned (OpenSpec.ofChange fnExactCareSumWrong)

/-- 'laws.FnExactTwoSum': WHATEVER THE INPUT: true; the input reads as it did. -/
def fnExactTwoSumSpec : ChangeSpec := { name := "fnExactTwoSum", fn := fun _ => fun
  | [d1, d2] => { results := [.lit (.bool true)], args := [d1, d2] }
  | _ => none }
def fnExactTwoSumRow : OpenClaim := { program := "ythmaeadfaomlkaa", sum := "ba0182fc767a949c4a4797ebd054688f6992751c776618adb84bff82df421154", func := "loop.example/g00043/laws.FnExactTwoSum", spec := "fnExactTwoSum", apart := false }
def FnExactTwoSumSaid : Prop := fnExactTwoSumRow.holds Try.pinned (OpenSpec.ofChange fnExactTwoSumSpec)

/-- ITS FALSE NEIGHBOUR: 'it returns false'. Refute it at one input. -/
def fnExactTwoSumWrong : ChangeSpec := { name := "fnExactTwoSum", fn := fun _ => fun
  | [d1, d2] => { results := [.lit (.bool false)], args := [d1, d2] }
  | _ => none }
def FnExactTwoSumWrongFalsely : Prop := fnExactTwoSumRow.holds Try.pinned (OpenSpec.ofChange fnExactTwoSumWrong)

/-- 'laws.FnExactDot': WHATEVER THE INPUT: true; the input reads as it did. -/
def fnExactDotSpec : ChangeSpec := { name := "fnExactDot", fn := fun _ => fun
  | [d1, d2] => { results := [.lit (.bool true)], args := [d1, d2] }
  | _ => none }
def fnExactDotRow : OpenClaim := { program := "ythmaeadfaomlkaa", sum := "ba0182fc767a949c4a4797ebd054688f6992751c776618adb84bff82df421154", func := "loop.example/g00043/laws.FnExactDot", spec := "fnExactDot", unfollowed := true, recurses := true, apart := false }
def FnExactDotSaid : Prop := fnExactDotRow.holds Try.pinned (OpenSpec.ofChange fnExactDotSpec)

/-- ITS FALSE NEIGHBOUR: 'it returns false'. Refute it at one input. -/
def fnExactDotWrong : ChangeSpec := { name := "fnExactDot", fn := fun _ => fun
  | [d1, d2] => { results := [.lit (.bool false)], args := [d1, d2] }
  | _ => none }
def FnExactDotWrongFalsely : Prop := fnExactDotRow.holds Try.pinned (OpenSpec.ofChange fnExactDotWrong)

/-- 'laws.FnExactHorner': WHATEVER THE INPUT: true; the input reads as it did. -/
def fnExactHornerSpec : ChangeSpec := { name := "fnExactHorner", fn := fun _ => fun
  | [d1, d2] => { results := [.lit (.bool true)], args := [d1, d2] }
  | _ => none }
def fnExactHornerRow : OpenClaim := { program := "ythmaeadfaomlkaa", sum := "ba0182fc767a949c4a4797ebd054688f6992751c776618adb84bff82df421154", func := "loop.example/g00043/laws.FnExactHorner", spec := "fnExactHorner", unfollowed := true, recurses := true, apart := false }
def FnExactHornerSaid : Prop := fnExactHornerRow.holds Try.pinned (OpenSpec.ofChange fnExactHornerSpec)

/-- ITS FALSE NEIGHBOUR: 'it returns false'. Refute it at one input. -/
def fnExactHornerWrong : ChangeSpec := { name := "fnExactHorner", fn := fun _ => fun
  | [d1, d2] => { results := [.lit (.bool false)], args := [d1, d2] }
  | _ => none }
def FnExactHornerWrongFalsely : Prop := fnExactHornerRow.holds Try.pinned (OpenSpec.ofChange fnExactHornerWrong)

/- THE SECOND FORM. 'bulk': how many values and letters a reading holds, each counted each time it is reached (what is shared counts as often as it is met; a slice's spare places count too). A statement '..UptoSaid' is the law's where the arguments, and the package variables that the reading takes, are together of bulk at most 1048576: NARROWER than '..Said'. Prove '..Said' where nothing that the law and all that it calls make is longer than what came in: it says more and counts as full. Else prove '..UptoSaid'. A law counts once. -/
mutual
def uptoBulk {H : Type} : DataW H → Nat
  | .lit (.string bytes) => bytes.length + 1
  | .lit _ => 1
  | .nil => 1
  | .ptr d => uptoBulk d + 1
  | .slice elems spare => uptoBulkAll elems + uptoBulkAll spare + 1
  | .agg parts => uptoBulkAll parts + 1
  | .iface _ d => uptoBulk d + 1
  | .map entries => uptoBulkEntries entries + 1
  | .held _ => 1
def uptoBulkAll {H : Type} : List (DataW H) → Nat
  | [] => 0
  | d :: r => uptoBulk d + uptoBulkAll r
def uptoBulkEntries {H : Type} : List (Lit × DataW H) → Nat
  | [] => 0
  | x :: r => uptoBulkEntry x + uptoBulkEntries r
def uptoBulkEntry {H : Type} : Lit × DataW H → Nat
  | (.string bytes, d) => bytes.length + uptoBulk d + 1
  | (_, d) => uptoBulk d + 1
 end
def uptoSmall : (H : Type) → List (DataW H) → Bool := fun _ ds => decide (uptoBulkAll ds ≤ 1048576)
def OpenSpec.upto (s : _root_.Go.ChangeSpec) : _root_.Go.OpenSpec := { _root_.Go.OpenSpec.ofChange s with cond := some uptoSmall }

/-- 'laws.FnExactSum', WHERE WHAT IT READS IS OF BULK AT MOST 1048576: true; the input reads as it did. -/
def fnExactSumUptoRow : OpenClaim := { program := "ythmaeadfaomlkaa", sum := "ba0182fc767a949c4a4797ebd054688f6992751c776618adb84bff82df421154", func := "loop.example/g00043/laws.FnExactSum", spec := "fnExactSum", unfollowed := true, recurses := true, apart := false, narrowed := true }
def FnExactSumUptoSaid : Prop := fnExactSumUptoRow.holds Try.pinned (OpenSpec.upto fnExactSumSpec)

/-- 'laws.FnExactPairSum', WHERE WHAT IT READS IS OF BULK AT MOST 1048576: true; the input reads as it did. -/
def fnExactPairSumUptoRow : OpenClaim := { program := "ythmaeadfaomlkaa", sum := "ba0182fc767a949c4a4797ebd054688f6992751c776618adb84bff82df421154", func := "loop.example/g00043/laws.FnExactPairSum", spec := "fnExactPairSum", recurses := true, apart := false, narrowed := true }
def FnExactPairSumUptoSaid : Prop := fnExactPairSumUptoRow.holds Try.pinned (OpenSpec.upto fnExactPairSumSpec)

/-- 'laws.FnExactCareSum', WHERE WHAT IT READS IS OF BULK AT MOST 1048576: true; the input reads as it did. -/
def fnExactCareSumUptoRow : OpenClaim := { program := "ythmaeadfaomlkaa", sum := "ba0182fc767a949c4a4797ebd054688f6992751c776618adb84bff82df421154", func := "loop.example/g00043/laws.FnExactCareSum", spec := "fnExactCareSum", unfollowed := true, recurses := true, apart := false, narrowed := true }
def FnExactCareSumUptoSaid : Prop := fnExactCareSumUptoRow.holds Try.pinned (OpenSpec.upto fnExactCareSumSpec)

/-- 'laws.FnExactTwoSum', WHERE WHAT IT READS IS OF BULK AT MOST 1048576: true; the input reads as it did. -/
def fnExactTwoSumUptoRow : OpenClaim := { program := "ythmaeadfaomlkaa", sum := "ba0182fc767a949c4a4797ebd054688f6992751c776618adb84bff82df421154", func := "loop.example/g00043/laws.FnExactTwoSum", spec := "fnExactTwoSum", apart := false, narrowed := true }
def FnExactTwoSumUptoSaid : Prop := fnExactTwoSumUptoRow.holds Try.pinned (OpenSpec.upto fnExactTwoSumSpec)

/-- 'laws.FnExactDot', WHERE WHAT IT READS IS OF BULK AT MOST 1048576: true; the input reads as it did. -/
def fnExactDotUptoRow : OpenClaim := { program := "ythmaeadfaomlkaa", sum := "ba0182fc767a949c4a4797ebd054688f6992751c776618adb84bff82df421154", func := "loop.example/g00043/laws.FnExactDot", spec := "fnExactDot", unfollowed := true, recurses := true, apart := false, narrowed := true }
def FnExactDotUptoSaid : Prop := fnExactDotUptoRow.holds Try.pinned (OpenSpec.upto fnExactDotSpec)

/-- 'laws.FnExactHorner', WHERE WHAT IT READS IS OF BULK AT MOST 1048576: true; the input reads as it did. -/
def fnExactHornerUptoRow : OpenClaim := { program := "ythmaeadfaomlkaa", sum := "ba0182fc767a949c4a4797ebd054688f6992751c776618adb84bff82df421154", func := "loop.example/g00043/laws.FnExactHorner", spec := "fnExactHorner", unfollowed := true, recurses := true, apart := false, narrowed := true }
def FnExactHornerUptoSaid : Prop := fnExactHornerUptoRow.holds Try.pinned (OpenSpec.upto fnExactHornerSpec)

end Rows
end Go.Proofs.Ythmaeadfaomlkaa
