/-
  NARROWER THAN 'FOR EVERY INPUT', by the rows' own cells (each row's printed sentence says how): FnDftBack: laid · FnConvolved: laid.
  DERIVED. THE GIVEN ROWS OF THIS SEAT. 2 by the template 'for every input the law returns true; each argument reads behind the call as it read before'; 0 by the template 'total and deterministic' (their statements: YtbbbahbbfaglbaaDoorTotals.lean).
  GIVEN WITH THE SEED: the statements are not yours to turn. If you find one false, say at which input.
  Laid BY PROGRAM, IN A SANDBOX (cutbox-rows.mjs): the forced cells as the released guide's own fill.sh prints them over the translation f6eadbc277c4f9ce… (all of the seat's roots in one cut). By AI agents, Wed Nov 11 2026. No macro, syntax, notation, axiom, sorry.
-/
import Derived.Test.YtbbbahbbfaglbaaDoorChecked
import GoSem.Claim
import GoSem.ClaimJoined
import GoSem.ClaimMapViews
import Derived.JoinedTies
import Derived.KernelRfl
namespace Go.Proofs.YtbbbahbbfaglbaaDoor
/- THE CELL 'sum', in the pinned program and in every row, IS THE sha256 OF THE DUMP (.gsa) THAT YtbbbahbbfaglbaaDoorProg.lean LOADS. Nothing in Lean hashes anything: it is a label: what it is worth is what the hold of that sum in a sandbox is worth. -/
noncomputable def Tryd.pinned : Pinned := { name := "ytbbbahbbfaglbaadoor", sum := "f6eadbc277c4f9ce93e4d5c38af333a60e5ba79393583fccc3720743cd1436ed", checked := Tryd.checked }
namespace Rows
def none {H : Type} : Left H := { results := [], args := [] }

/- WHAT THE LISTED PACKAGE-LEVEL VARIABLES READ AS WHEN THE CALL BEGINS. Each datum BY PROGRAM (the guide's laid-datum.mjs) off the statement by which the dump's own 'gosem.cut.vars' lays the variable. In a bare row this is a premise. The card (YtbbbahbbfaglbaaDoorCards.lean) ties it to the program's text. -/
def laid_loop_example_g00043_impl_primes {H : Type} : DataW H := .agg [.lit (.int .i64 998244353), .lit (.int .i64 167772161), .lit (.int .i64 469762049)]

/-- 'laws.FnDftBack': WHATEVER THE INPUT: true; the input reads as it did. -/
def fnDftBackSpec : ChangeSpec := { name := "fnDftBack", vars := ["loop.example/g00043/impl.primes"], fn := fun _ => fun
  | [d, g1] => { results := [.lit (.bool true)], args := [d], vars := [g1] }
  | _ => none }
def fnDftBackRow : OpenClaim := { program := "ytbbbahbbfaglbaadoor", sum := "f6eadbc277c4f9ce93e4d5c38af333a60e5ba79393583fccc3720743cd1436ed", func := "loop.example/g00043/laws.FnDftBack", spec := "fnDftBack", unfollowed := true, recurses := true, named := ["loop.example/g00043/impl.primes"], apart := false, laid := [("loop.example/g00043/impl.primes", laid_loop_example_g00043_impl_primes)] }
def FnDftBackSaid : Prop := fnDftBackRow.holds Tryd.pinned (OpenSpec.ofChange fnDftBackSpec)

/-- ITS FALSE NEIGHBOUR: 'it returns false'. Refute it at one input. -/
def fnDftBackWrong : ChangeSpec := { name := "fnDftBack", vars := ["loop.example/g00043/impl.primes"], fn := fun _ => fun
  | [d, g1] => { results := [.lit (.bool false)], args := [d], vars := [g1] }
  | _ => none }
def FnDftBackWrongFalsely : Prop := fnDftBackRow.holds Tryd.pinned (OpenSpec.ofChange fnDftBackWrong)

/-- 'laws.FnConvolved': WHATEVER THE INPUT: true; the input reads as it did. -/
def fnConvolvedSpec : ChangeSpec := { name := "fnConvolved", vars := ["loop.example/g00043/impl.primes"], fn := fun _ => fun
  | [d, g1] => { results := [.lit (.bool true)], args := [d], vars := [g1] }
  | _ => none }
def fnConvolvedRow : OpenClaim := { program := "ytbbbahbbfaglbaadoor", sum := "f6eadbc277c4f9ce93e4d5c38af333a60e5ba79393583fccc3720743cd1436ed", func := "loop.example/g00043/laws.FnConvolved", spec := "fnConvolved", unfollowed := true, recurses := true, named := ["loop.example/g00043/impl.primes"], apart := false, laid := [("loop.example/g00043/impl.primes", laid_loop_example_g00043_impl_primes)] }
def FnConvolvedSaid : Prop := fnConvolvedRow.holds Tryd.pinned (OpenSpec.ofChange fnConvolvedSpec)

/-- ITS FALSE NEIGHBOUR: 'it returns false'. Refute it at one input. -/
def fnConvolvedWrong : ChangeSpec := { name := "fnConvolved", vars := ["loop.example/g00043/impl.primes"], fn := fun _ => fun
  | [d, g1] => { results := [.lit (.bool false)], args := [d], vars := [g1] }
  | _ => none }
def FnConvolvedWrongFalsely : Prop := fnConvolvedRow.holds Tryd.pinned (OpenSpec.ofChange fnConvolvedWrong)

/- THE SECOND FORM. 'bulk': how many values and letters a reading holds, each counted each time it is reached (what is shared counts as often as it is met; a slice's spare places count too). A statement '..UptoSaid' is the law's where the arguments, and the package variables that the reading takes, are together of bulk at most 1048576: NARROWER than '..Said'. Prove '..Said' where nothing that the law and all that it calls make is longer than what came in: it says more and counts as full. Else prove '..UptoSaid'. A law counts once. -/
mutual
def uptoBulk {H : Type} : DataW H → Nat
  | .lit (.string bytes) => bytes.length + 1
  | .lit _ => 1
  | .nil => 1
  | .ptr d => uptoBulk d + 1
  | .slice elems spare => uptoBulkAll elems + uptoBulkAll spare + 1
  | .agg parts => uptoBulkAll parts + 1
  | .iface _ d => uptoBulk d + 1
  | .map entries => uptoBulkEntries entries + 1
  | .held _ => 1
def uptoBulkAll {H : Type} : List (DataW H) → Nat
  | [] => 0
  | d :: r => uptoBulk d + uptoBulkAll r
def uptoBulkEntries {H : Type} : List (Lit × DataW H) → Nat
  | [] => 0
  | x :: r => uptoBulkEntry x + uptoBulkEntries r
def uptoBulkEntry {H : Type} : Lit × DataW H → Nat
  | (.string bytes, d) => bytes.length + uptoBulk d + 1
  | (_, d) => uptoBulk d + 1
 end
def uptoSmall : (H : Type) → List (DataW H) → Bool := fun _ ds => decide (uptoBulkAll ds ≤ 1048576)
def OpenSpec.upto (s : _root_.Go.ChangeSpec) : _root_.Go.OpenSpec := { _root_.Go.OpenSpec.ofChange s with cond := some uptoSmall }

/-- 'laws.FnDftBack', WHERE WHAT IT READS IS OF BULK AT MOST 1048576: true; the input reads as it did. -/
def fnDftBackUptoRow : OpenClaim := { program := "ytbbbahbbfaglbaadoor", sum := "f6eadbc277c4f9ce93e4d5c38af333a60e5ba79393583fccc3720743cd1436ed", func := "loop.example/g00043/laws.FnDftBack", spec := "fnDftBack", unfollowed := true, recurses := true, named := ["loop.example/g00043/impl.primes"], apart := false, laid := [("loop.example/g00043/impl.primes", laid_loop_example_g00043_impl_primes)], narrowed := true }
def FnDftBackUptoSaid : Prop := fnDftBackUptoRow.holds Tryd.pinned (OpenSpec.upto fnDftBackSpec)

/-- 'laws.FnConvolved', WHERE WHAT IT READS IS OF BULK AT MOST 1048576: true; the input reads as it did. -/
def fnConvolvedUptoRow : OpenClaim := { program := "ytbbbahbbfaglbaadoor", sum := "f6eadbc277c4f9ce93e4d5c38af333a60e5ba79393583fccc3720743cd1436ed", func := "loop.example/g00043/laws.FnConvolved", spec := "fnConvolved", unfollowed := true, recurses := true, named := ["loop.example/g00043/impl.primes"], apart := false, laid := [("loop.example/g00043/impl.primes", laid_loop_example_g00043_impl_primes)], narrowed := true }
def FnConvolvedUptoSaid : Prop := fnConvolvedUptoRow.holds Tryd.pinned (OpenSpec.upto fnConvolvedSpec)

end Rows
end Go.Proofs.YtbbbahbbfaglbaaDoor
