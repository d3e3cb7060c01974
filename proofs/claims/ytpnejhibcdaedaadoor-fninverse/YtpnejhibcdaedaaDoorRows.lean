/-
  NARROWER THAN 'FOR EVERY INPUT', by the rows' own cells (each row's printed sentence says how): FnInverse: laid · FnTogether: laid.
  DERIVED. THE GIVEN ROWS OF THIS SEAT. 2 by the template 'for every input the law returns true; each argument reads behind the call as it read before'; 0 by the template 'total and deterministic' (their statements: YtpnejhibcdaedaaDoorTotals.lean).
  GIVEN WITH THE SEED: the statements are not yours to turn. If you find one false, say at which input.
  Laid BY PROGRAM, IN A SANDBOX (cutbox-rows.mjs): the forced cells as the released guide's own fill.sh prints them over the translation c37a0e018b5a5aca… (all of the seat's roots in one cut). By AI agents, Wed Nov 11 2026. No macro, syntax, notation, axiom, sorry.
-/
import Derived.Test.YtpnejhibcdaedaaDoorChecked
import GoSem.Claim
import GoSem.ClaimJoined
import GoSem.ClaimMapViews
import Derived.JoinedTies
import Derived.KernelRfl
namespace Go.Proofs.YtpnejhibcdaedaaDoor
/- THE CELL 'sum', in the pinned program and in every row, IS THE sha256 OF THE DUMP (.gsa) THAT YtpnejhibcdaedaaDoorProg.lean LOADS. Nothing in Lean hashes anything: it is a label: what it is worth is what the hold of that sum in a sandbox is worth. -/
noncomputable def Tryd.pinned : Pinned := { name := "ytpnejhibcdaedaadoor", sum := "c37a0e018b5a5acac4aa84a15465a0a5db9390f2c44a140c85441c1cb2d03de5", checked := Tryd.checked }
namespace Rows
def none {H : Type} : Left H := { results := [], args := [] }

/- WHAT THE LISTED PACKAGE-LEVEL VARIABLES READ AS WHEN THE CALL BEGINS. Each datum BY PROGRAM (the guide's laid-datum.mjs) off the statement by which the dump's own 'gosem.cut.vars' lays the variable. In a bare row this is a premise. The card (YtpnejhibcdaedaaDoorCards.lean) ties it to the program's text. -/
def laid_loop_example_g00043_impl_primes {H : Type} : DataW H := .agg [.lit (.int .i64 998244353), .lit (.int .i64 167772161), .lit (.int .i64 469762049)]

/-- 'laws.FnInverse': WHATEVER THE INPUT: true; the input reads as it did. -/
def fnInverseSpec : ChangeSpec := { name := "fnInverse", vars := ["loop.example/g00043/impl.primes"], fn := fun _ => fun
  | [d, g1] => { results := [.lit (.bool true)], args := [d], vars := [g1] }
  | _ => none }
def fnInverseRow : OpenClaim := { program := "ytpnejhibcdaedaadoor", sum := "c37a0e018b5a5acac4aa84a15465a0a5db9390f2c44a140c85441c1cb2d03de5", func := "loop.example/g00043/laws.FnInverse", spec := "fnInverse", named := ["loop.example/g00043/impl.primes"], apart := false, laid := [("loop.example/g00043/impl.primes", laid_loop_example_g00043_impl_primes)] }
def FnInverseSaid : Prop := fnInverseRow.holds Tryd.pinned (OpenSpec.ofChange fnInverseSpec)

/-- ITS FALSE NEIGHBOUR: 'it returns false'. Refute it at one input. -/
def fnInverseWrong : ChangeSpec := { name := "fnInverse", vars := ["loop.example/g00043/impl.primes"], fn := fun _ => fun
  | [d, g1] => { results := [.lit (.bool false)], args := [d], vars := [g1] }
  | _ => none }
def FnInverseWrongFalsely : Prop := fnInverseRow.holds Tryd.pinned (OpenSpec.ofChange fnInverseWrong)

/-- 'laws.FnTogether': WHATEVER THE INPUT: true; the input reads as it did. -/
def fnTogetherSpec : ChangeSpec := { name := "fnTogether", vars := ["loop.example/g00043/impl.primes"], fn := fun _ => fun
  | [d, g1] => { results := [.lit (.bool true)], args := [d], vars := [g1] }
  | _ => none }
def fnTogetherRow : OpenClaim := { program := "ytpnejhibcdaedaadoor", sum := "c37a0e018b5a5acac4aa84a15465a0a5db9390f2c44a140c85441c1cb2d03de5", func := "loop.example/g00043/laws.FnTogether", spec := "fnTogether", named := ["loop.example/g00043/impl.primes"], apart := false, laid := [("loop.example/g00043/impl.primes", laid_loop_example_g00043_impl_primes)] }
def FnTogetherSaid : Prop := fnTogetherRow.holds Tryd.pinned (OpenSpec.ofChange fnTogetherSpec)

/-- ITS FALSE NEIGHBOUR: 'it returns false'. Refute it at one input. -/
def fnTogetherWrong : ChangeSpec := { name := "fnTogether", vars := ["loop.example/g00043/impl.primes"], fn := fun _ => fun
  | [d, g1] => { results := [.lit (.bool false)], args := [d], vars := [g1] }
  | _ => none }
def FnTogetherWrongFalsely : Prop := fnTogetherRow.holds Tryd.pinned (OpenSpec.ofChange fnTogetherWrong)

/- THE SECOND FORM. 'bulk': how many values and letters a reading holds, each counted each time it is reached (what is shared counts as often as it is met; a slice's spare places count too). A statement '..UptoSaid' is the law's where the arguments, and the package variables that the reading takes, are together of bulk at most 1048576: NARROWER than '..Said'. Prove '..Said' where nothing that the law and all that it calls make is longer than what came in: it says more and counts as full. Else prove '..UptoSaid'. A law counts once. -/
mutual
def uptoBulk {H : Type} : DataW H → Nat
  | .lit (.string bytes) => bytes.length + 1
  | .lit _ => 1
  | .nil => 1
  | .ptr d => uptoBulk d + 1
  | .slice elems spare => uptoBulkAll elems + uptoBulkAll spare + 1
  | .agg parts => uptoBulkAll parts + 1
  | .iface _ d => uptoBulk d + 1
  | .map entries => uptoBulkEntries entries + 1
  | .held _ => 1
def uptoBulkAll {H : Type} : List (DataW H) → Nat
  | [] => 0
  | d :: r => uptoBulk d + uptoBulkAll r
def uptoBulkEntries {H : Type} : List (Lit × DataW H) → Nat
  | [] => 0
  | x :: r => uptoBulkEntry x + uptoBulkEntries r
def uptoBulkEntry {H : Type} : Lit × DataW H → Nat
  | (.string bytes, d) => bytes.length + uptoBulk d + 1
  | (_, d) => uptoBulk d + 1
 end
def uptoSmall : (H : Type) → List (DataW H) → Bool := fun _ ds => decide (uptoBulkAll ds ≤ 1048576)
def OpenSpec.upto (s : _root_.Go.ChangeSpec) : _root_.Go.OpenSpec := { _root_.Go.OpenSpec.ofChange s with cond := some uptoSmall }

/-- 'laws.FnInverse', WHERE WHAT IT READS IS OF BULK AT MOST 1048576: true; the input reads as it did. -/
def fnInverseUptoRow : OpenClaim := { program := "ytpnejhibcdaedaadoor", sum := "c37a0e018b5a5acac4aa84a15465a0a5db9390f2c44a140c85441c1cb2d03de5", func := "loop.example/g00043/laws.FnInverse", spec := "fnInverse", named := ["loop.example/g00043/impl.primes"], apart := false, laid := [("loop.example/g00043/impl.primes", laid_loop_example_g00043_impl_primes)], narrowed := true }
def FnInverseUptoSaid : Prop := fnInverseUptoRow.holds Tryd.pinned (OpenSpec.upto fnInverseSpec)

/-- 'laws.FnTogether', WHERE WHAT IT READS IS OF BULK AT MOST 1048576: true; the input reads as it did. -/
def fnTogetherUptoRow : OpenClaim := { program := "ytpnejhibcdaedaadoor", sum := "c37a0e018b5a5acac4aa84a15465a0a5db9390f2c44a140c85441c1cb2d03de5", func := "loop.example/g00043/laws.FnTogether", spec := "fnTogether", named := ["loop.example/g00043/impl.primes"], apart := false, laid := [("loop.example/g00043/impl.primes", laid_loop_example_g00043_impl_primes)], narrowed := true }
def FnTogetherUptoSaid : Prop := fnTogetherUptoRow.holds Tryd.pinned (OpenSpec.upto fnTogetherSpec)

end Rows
end Go.Proofs.YtpnejhibcdaedaaDoor
