/-
  No cell of these rows narrows 'for every input' (looked for: loops, veiled, ifaces, maps, wideKeys, modest, calm, conditions, laid).
  DERIVED. THE GIVEN ROWS OF THIS SEAT. 4 by the template 'for every input the law returns true; each argument reads behind the call as it read before'; 0 by the template 'total and deterministic' (their statements: YtlccicbgepfbbabTotals.lean).
  GIVEN WITH THE SEED: the statements are not yours to turn. If you find one false, say at which input.
  Laid BY PROGRAM, IN A SANDBOX (cutbox-rows.mjs): the forced cells as the released guide's own fill.sh prints them over the translation 714cdeb0fdbc13b9… (all of the seat's roots in one cut). By AI agents, Wed Nov 11 2026. No macro, syntax, notation, axiom, sorry.
-/
import Derived.Test.YtlccicbgepfbbabChecked
import GoSem.Claim
import GoSem.ClaimJoined
import GoSem.ClaimMapViews
import Derived.JoinedTies
import Derived.KernelRfl
namespace Go.Proofs.Ytlccicbgepfbbab
/- THE CELL 'sum', in the pinned program and in every row, IS THE sha256 OF THE DUMP (.gsa) THAT YtlccicbgepfbbabProg.lean LOADS. Nothing in Lean hashes anything: it is a label: what it is worth is what the hold of that sum in a sandbox is worth. -/
noncomputable def Try.pinned : Pinned := { name := "ytlccicbgepfbbab", sum := "714cdeb0fdbc13b9ac916600bc8d507fe5149433f5e2dc3fe8629df0de59b7a2", checked := Try.checked }
namespace Rows
def none {H : Type} : Left H := { results := [], args := [] }

/-- 'laws.FnExactLine': WHATEVER THE INPUT: true; the input reads as it did. -/
def fnExactLineSpec : ChangeSpec := { name := "fnExactLine", fn := fun _ => fun
  | [d1, d2] => { results := [.lit (.bool true)], args := [d1, d2] }
  | _ => none }
def fnExactLineRow : OpenClaim := { program := "ytlccicbgepfbbab", sum := "714cdeb0fdbc13b9ac916600bc8d507fe5149433f5e2dc3fe8629df0de59b7a2", func := "loop.example/g00043/laws.FnExactLine", spec := "fnExactLine", recurses := true, apart := false }
def FnExactLineSaid : Prop := fnExactLineRow.holds Try.pinned (OpenSpec.ofChange fnExactLineSpec)

/-- ITS FALSE NEIGHBOUR: 'it returns false'. Refute it at one input. -/
def fnExactLineWrong : ChangeSpec := { name := "fnExactLine", fn := fun _ => fun
  | [d1, d2] => { results := [.lit (.bool false)], args := [d1, d2] }
  | _ => none }
def FnExactLineWrongFalsely : Prop := fnExactLineRow.holds Try.pinned (OpenSpec.ofChange fnExactLineWrong)

/-- 'laws.FnExactRoom': WHATEVER THE INPUT: true; the input reads as it did. -/
def fnExactRoomSpec : ChangeSpec := { name := "fnExactRoom", fn := fun _ => fun
  | [d1, d2, d3] => { results := [.lit (.bool true)], args := [d1, d2, d3] }
  | _ => none }
def fnExactRoomRow : OpenClaim := { program := "ytlccicbgepfbbab", sum := "714cdeb0fdbc13b9ac916600bc8d507fe5149433f5e2dc3fe8629df0de59b7a2", func := "loop.example/g00043/laws.FnExactRoom", spec := "fnExactRoom", apart := false }
def FnExactRoomSaid : Prop := fnExactRoomRow.holds Try.pinned (OpenSpec.ofChange fnExactRoomSpec)

/-- ITS FALSE NEIGHBOUR: 'it returns false'. Refute it at one input. -/
def fnExactRoomWrong : ChangeSpec := { name := "fnExactRoom", fn := fun _ => fun
  | [d1, d2, d3] => { results := [.lit (.bool false)], args := [d1, d2, d3] }
  | _ => none }
def FnExactRoomWrongFalsely : Prop := fnExactRoomRow.holds Try.pinned (OpenSpec.ofChange fnExactRoomWrong)

/-- 'laws.FnExactWaves': WHATEVER THE INPUT: true; the input reads as it did. -/
def fnExactWavesSpec : ChangeSpec := { name := "fnExactWaves", fn := fun _ => fun
  | [d1, d2] => { results := [.lit (.bool true)], args := [d1, d2] }
  | _ => none }
def fnExactWavesRow : OpenClaim := { program := "ytlccicbgepfbbab", sum := "714cdeb0fdbc13b9ac916600bc8d507fe5149433f5e2dc3fe8629df0de59b7a2", func := "loop.example/g00043/laws.FnExactWaves", spec := "fnExactWaves", recurses := true, apart := false }
def FnExactWavesSaid : Prop := fnExactWavesRow.holds Try.pinned (OpenSpec.ofChange fnExactWavesSpec)

/-- ITS FALSE NEIGHBOUR: 'it returns false'. Refute it at one input. -/
def fnExactWavesWrong : ChangeSpec := { name := "fnExactWaves", fn := fun _ => fun
  | [d1, d2] => { results := [.lit (.bool false)], args := [d1, d2] }
  | _ => none }
def FnExactWavesWrongFalsely : Prop := fnExactWavesRow.holds Try.pinned (OpenSpec.ofChange fnExactWavesWrong)

/-- 'laws.FnExactLatency': WHATEVER THE INPUT: true; the input reads as it did. -/
def fnExactLatencySpec : ChangeSpec := { name := "fnExactLatency", fn := fun _ => fun
  | [d1, d2, d3] => { results := [.lit (.bool true)], args := [d1, d2, d3] }
  | _ => none }
def fnExactLatencyRow : OpenClaim := { program := "ytlccicbgepfbbab", sum := "714cdeb0fdbc13b9ac916600bc8d507fe5149433f5e2dc3fe8629df0de59b7a2", func := "loop.example/g00043/laws.FnExactLatency", spec := "fnExactLatency", unfollowed := true, recurses := true, apart := false }
def FnExactLatencySaid : Prop := fnExactLatencyRow.holds Try.pinned (OpenSpec.ofChange fnExactLatencySpec)

/-- ITS FALSE NEIGHBOUR: 'it returns false'. Refute it at one input. -/
def fnExactLatencyWrong : ChangeSpec := { name := "fnExactLatency", fn := fun _ => fun
  | [d1, d2, d3] => { results := [.lit (.bool false)], args := [d1, d2, d3] }
  | _ => none }
def FnExactLatencyWrongFalsely : Prop := fnExactLatencyRow.holds Try.pinned (OpenSpec.ofChange fnExactLatencyWrong)

/- THE SECOND FORM. 'bulk': how many values and letters a reading holds, each counted each time it is reached (what is shared counts as often as it is met; a slice's spare places count too). A statement '..UptoSaid' is the law's where the arguments, and the package variables that the reading takes, are together of bulk at most 1048576: NARROWER than '..Said'. Prove '..Said' where nothing that the law and all that it calls make is longer than what came in: it says more and counts as full. Else prove '..UptoSaid'. A law counts once. -/
mutual
def uptoBulk {H : Type} : DataW H → Nat
  | .lit (.string bytes) => bytes.length + 1
  | .lit _ => 1
  | .nil => 1
  | .ptr d => uptoBulk d + 1
  | .slice elems spare => uptoBulkAll elems + uptoBulkAll spare + 1
  | .agg parts => uptoBulkAll parts + 1
  | .iface _ d => uptoBulk d + 1
  | .map entries => uptoBulkEntries entries + 1
  | .held _ => 1
def uptoBulkAll {H : Type} : List (DataW H) → Nat
  | [] => 0
  | d :: r => uptoBulk d + uptoBulkAll r
def uptoBulkEntries {H : Type} : List (Lit × DataW H) → Nat
  | [] => 0
  | x :: r => uptoBulkEntry x + uptoBulkEntries r
def uptoBulkEntry {H : Type} : Lit × DataW H → Nat
  | (.string bytes, d) => bytes.length + uptoBulk d + 1
  | (_, d) => uptoBulk d + 1
 end
def uptoSmall : (H : Type) → List (DataW H) → Bool := fun _ ds => decide (uptoBulkAll ds ≤ 1048576)
def OpenSpec.upto (s : _root_.Go.ChangeSpec) : _root_.Go.OpenSpec := { _root_.Go.OpenSpec.ofChange s with cond := some uptoSmall }

/-- 'laws.FnExactLine', WHERE WHAT IT READS IS OF BULK AT MOST 1048576: true; the input reads as it did. -/
def fnExactLineUptoRow : OpenClaim := { program := "ytlccicbgepfbbab", sum := "714cdeb0fdbc13b9ac916600bc8d507fe5149433f5e2dc3fe8629df0de59b7a2", func := "loop.example/g00043/laws.FnExactLine", spec := "fnExactLine", recurses := true, apart := false, narrowed := true }
def FnExactLineUptoSaid : Prop := fnExactLineUptoRow.holds Try.pinned (OpenSpec.upto fnExactLineSpec)

/-- 'laws.FnExactRoom', WHERE WHAT IT READS IS OF BULK AT MOST 1048576: true; the input reads as it did. -/
def fnExactRoomUptoRow : OpenClaim := { program := "ytlccicbgepfbbab", sum := "714cdeb0fdbc13b9ac916600bc8d507fe5149433f5e2dc3fe8629df0de59b7a2", func := "loop.example/g00043/laws.FnExactRoom", spec := "fnExactRoom", apart := false, narrowed := true }
def FnExactRoomUptoSaid : Prop := fnExactRoomUptoRow.holds Try.pinned (OpenSpec.upto fnExactRoomSpec)

/-- 'laws.FnExactWaves', WHERE WHAT IT READS IS OF BULK AT MOST 1048576: true; the input reads as it did. -/
def fnExactWavesUptoRow : OpenClaim := { program := "ytlccicbgepfbbab", sum := "714cdeb0fdbc13b9ac916600bc8d507fe5149433f5e2dc3fe8629df0de59b7a2", func := "loop.example/g00043/laws.FnExactWaves", spec := "fnExactWaves", recurses := true, apart := false, narrowed := true }
def FnExactWavesUptoSaid : Prop := fnExactWavesUptoRow.holds Try.pinned (OpenSpec.upto fnExactWavesSpec)

/-- 'laws.FnExactLatency', WHERE WHAT IT READS IS OF BULK AT MOST 1048576: true; the input reads as it did. -/
def fnExactLatencyUptoRow : OpenClaim := { program := "ytlccicbgepfbbab", sum := "714cdeb0fdbc13b9ac916600bc8d507fe5149433f5e2dc3fe8629df0de59b7a2", func := "loop.example/g00043/laws.FnExactLatency", spec := "fnExactLatency", unfollowed := true, recurses := true, apart := false, narrowed := true }
def FnExactLatencyUptoSaid : Prop := fnExactLatencyUptoRow.holds Try.pinned (OpenSpec.upto fnExactLatencySpec)

end Rows
end Go.Proofs.Ytlccicbgepfbbab
