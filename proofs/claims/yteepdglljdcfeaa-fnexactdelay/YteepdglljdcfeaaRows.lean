/-
  No cell of these rows narrows 'for every input' (looked for: loops, veiled, ifaces, maps, wideKeys, modest, calm, conditions, laid).
  DERIVED. THE GIVEN ROWS OF THIS SEAT. 4 by the template 'for every input the law returns true; each argument reads behind the call as it read before'; 0 by the template 'total and deterministic' (their statements: YteepdglljdcfeaaTotals.lean).
  GIVEN WITH THE SEED: the statements are not yours to turn. If you find one false, say at which input.
  Laid BY PROGRAM, IN A SANDBOX (cutbox-rows.mjs): the forced cells as the released guide's own fill.sh prints them over the translation b5401a61e166395c… (all of the seat's roots in one cut). By AI agents, Wed Nov 11 2026. No macro, syntax, notation, axiom, sorry.
-/
import Derived.Test.YteepdglljdcfeaaChecked
import GoSem.Claim
import GoSem.ClaimJoined
import GoSem.ClaimMapViews
import Derived.JoinedTies
import Derived.KernelRfl
namespace Go.Proofs.Yteepdglljdcfeaa
/- THE CELL 'sum', in the pinned program and in every row, IS THE sha256 OF THE DUMP (.gsa) THAT YteepdglljdcfeaaProg.lean LOADS. Nothing in Lean hashes anything: it is a label: what it is worth is what the hold of that sum in a sandbox is worth. -/
noncomputable def Try.pinned : Pinned := { name := "yteepdglljdcfeaa", sum := "b5401a61e166395c729ced545b375a6874617b7c3e17f3a5d1d6b94a9a297c26", checked := Try.checked }
namespace Rows
def none {H : Type} : Left H := { results := [], args := [] }

/-- 'laws.FnExactUp': WHATEVER THE INPUT: true; the input reads as it did. -/
def fnExactUpSpec : ChangeSpec := { name := "fnExactUp", fn := fun _ => fun
  | [d1, d2] => { results := [.lit (.bool true)], args := [d1, d2] }
  | _ => none }
def fnExactUpRow : OpenClaim := { program := "yteepdglljdcfeaa", sum := "b5401a61e166395c729ced545b375a6874617b7c3e17f3a5d1d6b94a9a297c26", func := "loop.example/g00043/laws.FnExactUp", spec := "fnExactUp", apart := false }
def FnExactUpSaid : Prop := fnExactUpRow.holds Try.pinned (OpenSpec.ofChange fnExactUpSpec)

/-- ITS FALSE NEIGHBOUR: 'it returns false'. Refute it at one input. -/
def fnExactUpWrong : ChangeSpec := { name := "fnExactUp", fn := fun _ => fun
  | [d1, d2] => { results := [.lit (.bool false)], args := [d1, d2] }
  | _ => none }
def FnExactUpWrongFalsely : Prop := fnExactUpRow.holds Try.pinned (OpenSpec.ofChange fnExactUpWrong)

/-- 'laws.FnExactDown': WHATEVER THE INPUT: true; the input reads as it did. -/
def fnExactDownSpec : ChangeSpec := { name := "fnExactDown", fn := fun _ => fun
  | [d1, d2, d3] => { results := [.lit (.bool true)], args := [d1, d2, d3] }
  | _ => none }
def fnExactDownRow : OpenClaim := { program := "yteepdglljdcfeaa", sum := "b5401a61e166395c729ced545b375a6874617b7c3e17f3a5d1d6b94a9a297c26", func := "loop.example/g00043/laws.FnExactDown", spec := "fnExactDown", apart := false }
def FnExactDownSaid : Prop := fnExactDownRow.holds Try.pinned (OpenSpec.ofChange fnExactDownSpec)

/-- ITS FALSE NEIGHBOUR: 'it returns false'. Refute it at one input. -/
def fnExactDownWrong : ChangeSpec := { name := "fnExactDown", fn := fun _ => fun
  | [d1, d2, d3] => { results := [.lit (.bool false)], args := [d1, d2, d3] }
  | _ => none }
def FnExactDownWrongFalsely : Prop := fnExactDownRow.holds Try.pinned (OpenSpec.ofChange fnExactDownWrong)

/-- 'laws.FnExactDrift': WHATEVER THE INPUT: true; the input reads as it did. -/
def fnExactDriftSpec : ChangeSpec := { name := "fnExactDrift", fn := fun _ => fun
  | [d1, d2, d3, d4] => { results := [.lit (.bool true)], args := [d1, d2, d3, d4] }
  | _ => none }
def fnExactDriftRow : OpenClaim := { program := "yteepdglljdcfeaa", sum := "b5401a61e166395c729ced545b375a6874617b7c3e17f3a5d1d6b94a9a297c26", func := "loop.example/g00043/laws.FnExactDrift", spec := "fnExactDrift", apart := false }
def FnExactDriftSaid : Prop := fnExactDriftRow.holds Try.pinned (OpenSpec.ofChange fnExactDriftSpec)

/-- ITS FALSE NEIGHBOUR: 'it returns false'. Refute it at one input. -/
def fnExactDriftWrong : ChangeSpec := { name := "fnExactDrift", fn := fun _ => fun
  | [d1, d2, d3, d4] => { results := [.lit (.bool false)], args := [d1, d2, d3, d4] }
  | _ => none }
def FnExactDriftWrongFalsely : Prop := fnExactDriftRow.holds Try.pinned (OpenSpec.ofChange fnExactDriftWrong)

/-- 'laws.FnExactDelay': WHATEVER THE INPUT: true; the input reads as it did. -/
def fnExactDelaySpec : ChangeSpec := { name := "fnExactDelay", fn := fun _ => fun
  | [d1, d2, d3] => { results := [.lit (.bool true)], args := [d1, d2, d3] }
  | _ => none }
def fnExactDelayRow : OpenClaim := { program := "yteepdglljdcfeaa", sum := "b5401a61e166395c729ced545b375a6874617b7c3e17f3a5d1d6b94a9a297c26", func := "loop.example/g00043/laws.FnExactDelay", spec := "fnExactDelay", apart := false }
def FnExactDelaySaid : Prop := fnExactDelayRow.holds Try.pinned (OpenSpec.ofChange fnExactDelaySpec)

/-- ITS FALSE NEIGHBOUR: 'it returns false'. Refute it at one input. -/
def fnExactDelayWrong : ChangeSpec := { name := "fnExactDelay", fn := fun _ => fun
  | [d1, d2, d3] => { results := [.lit (.bool false)], args := [d1, d2, d3] }
  | _ => none }
def FnExactDelayWrongFalsely : Prop := fnExactDelayRow.holds Try.pinned (OpenSpec.ofChange fnExactDelayWrong)

/- THE SECOND FORM. 'bulk': how many values and letters a reading holds, each counted each time it is reached (what is shared counts as often as it is met; a slice's spare places count too). A statement '..UptoSaid' is the law's where the arguments, and the package variables that the reading takes, are together of bulk at most 1048576: NARROWER than '..Said'. Prove '..Said' where nothing that the law and all that it calls make is longer than what came in: it says more and counts as full. Else prove '..UptoSaid'. A law counts once. -/
mutual
def uptoBulk {H : Type} : DataW H → Nat
  | .lit (.string bytes) => bytes.length + 1
  | .lit _ => 1
  | .nil => 1
  | .ptr d => uptoBulk d + 1
  | .slice elems spare => uptoBulkAll elems + uptoBulkAll spare + 1
  | .agg parts => uptoBulkAll parts + 1
  | .iface _ d => uptoBulk d + 1
  | .map entries => uptoBulkEntries entries + 1
  | .held _ => 1
def uptoBulkAll {H : Type} : List (DataW H) → Nat
  | [] => 0
  | d :: r => uptoBulk d + uptoBulkAll r
def uptoBulkEntries {H : Type} : List (Lit × DataW H) → Nat
  | [] => 0
  | x :: r => uptoBulkEntry x + uptoBulkEntries r
def uptoBulkEntry {H : Type} : Lit × DataW H → Nat
  | (.string bytes, d) => bytes.length + uptoBulk d + 1
  | (_, d) => uptoBulk d + 1
 end
def uptoSmall : (H : Type) → List (DataW H) → Bool := fun _ ds => decide (uptoBulkAll ds ≤ 1048576)
def OpenSpec.upto (s : _root_.Go.ChangeSpec) : _root_.Go.OpenSpec := { _root_.Go.OpenSpec.ofChange s with cond := some uptoSmall }

/-- 'laws.FnExactUp', WHERE WHAT IT READS IS OF BULK AT MOST 1048576: true; the input reads as it did. -/
def fnExactUpUptoRow : OpenClaim := { program := "yteepdglljdcfeaa", sum := "b5401a61e166395c729ced545b375a6874617b7c3e17f3a5d1d6b94a9a297c26", func := "loop.example/g00043/laws.FnExactUp", spec := "fnExactUp", apart := false, narrowed := true }
def FnExactUpUptoSaid : Prop := fnExactUpUptoRow.holds Try.pinned (OpenSpec.upto fnExactUpSpec)

/-- 'laws.FnExactDown', WHERE WHAT IT READS IS OF BULK AT MOST 1048576: true; the input reads as it did. -/
def fnExactDownUptoRow : OpenClaim := { program := "yteepdglljdcfeaa", sum := "b5401a61e166395c729ced545b375a6874617b7c3e17f3a5d1d6b94a9a297c26", func := "loop.example/g00043/laws.FnExactDown", spec := "fnExactDown", apart := false, narrowed := true }
def FnExactDownUptoSaid : Prop := fnExactDownUptoRow.holds Try.pinned (OpenSpec.upto fnExactDownSpec)

/-- 'laws.FnExactDrift', WHERE WHAT IT READS IS OF BULK AT MOST 1048576: true; the input reads as it did. -/
def fnExactDriftUptoRow : OpenClaim := { program := "yteepdglljdcfeaa", sum := "b5401a61e166395c729ced545b375a6874617b7c3e17f3a5d1d6b94a9a297c26", func := "loop.example/g00043/laws.FnExactDrift", spec := "fnExactDrift", apart := false, narrowed := true }
def FnExactDriftUptoSaid : Prop := fnExactDriftUptoRow.holds Try.pinned (OpenSpec.upto fnExactDriftSpec)

/-- 'laws.FnExactDelay', WHERE WHAT IT READS IS OF BULK AT MOST 1048576: true; the input reads as it did. -/
def fnExactDelayUptoRow : OpenClaim := { program := "yteepdglljdcfeaa", sum := "b5401a61e166395c729ced545b375a6874617b7c3e17f3a5d1d6b94a9a297c26", func := "loop.example/g00043/laws.FnExactDelay", spec := "fnExactDelay", apart := false, narrowed := true }
def FnExactDelayUptoSaid : Prop := fnExactDelayUptoRow.holds Try.pinned (OpenSpec.upto fnExactDelaySpec)

end Rows
end Go.Proofs.Yteepdglljdcfeaa
