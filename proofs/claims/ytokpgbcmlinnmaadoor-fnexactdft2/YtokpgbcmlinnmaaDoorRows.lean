/-
  NARROWER THAN 'FOR EVERY INPUT', by the rows' own cells (each row's printed sentence says how): FnExactPowMod: laid · FnExactInvMod: laid · FnExactUnit: laid · FnExactDft: laid · FnExactDft2: laid.
  DERIVED. THE GIVEN ROWS OF THIS SEAT. 5 by the template 'for every input the law returns true; each argument reads behind the call as it read before'; 0 by the template 'total and deterministic' (their statements: YtokpgbcmlinnmaaDoorTotals.lean).
  GIVEN WITH THE SEED: the statements are not yours to turn. If you find one false, say at which input.
  Laid BY PROGRAM, IN A SANDBOX (cutbox-rows.mjs): the forced cells as the released guide's own fill.sh prints them over the translation cda19d0a218be3aa… (all of the seat's roots in one cut). By AI agents, Wed Nov 11 2026. No macro, syntax, notation, axiom, sorry.
-/
import Derived.Test.YtokpgbcmlinnmaaDoorChecked
import GoSem.Claim
import GoSem.ClaimJoined
import GoSem.ClaimMapViews
import Derived.JoinedTies
import Derived.KernelRfl
namespace Go.Proofs.YtokpgbcmlinnmaaDoor
/- THE CELL 'sum', in the pinned program and in every row, IS THE sha256 OF THE DUMP (.gsa) THAT YtokpgbcmlinnmaaDoorProg.lean LOADS. Nothing in Lean hashes anything: it is a label: what it is worth is what the hold of that sum in a sandbox is worth. -/
noncomputable def Tryd.pinned : Pinned := { name := "ytokpgbcmlinnmaadoor", sum := "cda19d0a218be3aadb064c16302e754496f3c4a6a69d66efe4c782119a65c9a3", checked := Tryd.checked }
namespace Rows
def none {H : Type} : Left H := { results := [], args := [] }

/- WHAT THE LISTED PACKAGE-LEVEL VARIABLES READ AS WHEN THE CALL BEGINS. Each datum BY PROGRAM (the guide's laid-datum.mjs) off the statement by which the dump's own 'gosem.cut.vars' lays the variable. In a bare row this is a premise. The card (YtokpgbcmlinnmaaDoorCards.lean) ties it to the program's text. -/
def laid_loop_example_g00043_impl_primes {H : Type} : DataW H := .agg [.lit (.int .i64 998244353), .lit (.int .i64 167772161), .lit (.int .i64 469762049)]

/-- 'laws.FnExactPowMod': WHATEVER THE INPUT: true; the input reads as it did. -/
def fnExactPowModSpec : ChangeSpec := { name := "fnExactPowMod", vars := ["loop.example/g00043/impl.primes"], fn := fun _ => fun
  | [d1, d2, d3, g1] => { results := [.lit (.bool true)], args := [d1, d2, d3], vars := [g1] }
  | _ => none }
def fnExactPowModRow : OpenClaim := { program := "ytokpgbcmlinnmaadoor", sum := "cda19d0a218be3aadb064c16302e754496f3c4a6a69d66efe4c782119a65c9a3", func := "loop.example/g00043/laws.FnExactPowMod", spec := "fnExactPowMod", named := ["loop.example/g00043/impl.primes"], apart := false, laid := [("loop.example/g00043/impl.primes", laid_loop_example_g00043_impl_primes)] }
def FnExactPowModSaid : Prop := fnExactPowModRow.holds Tryd.pinned (OpenSpec.ofChange fnExactPowModSpec)

/-- ITS FALSE NEIGHBOUR: 'it returns false'. Refute it at one input. -/
def fnExactPowModWrong : ChangeSpec := { name := "fnExactPowMod", vars := ["loop.example/g00043/impl.primes"], fn := fun _ => fun
  | [d1, d2, d3, g1] => { results := [.lit (.bool false)], args := [d1, d2, d3], vars := [g1] }
  | _ => none }
def FnExactPowModWrongFalsely : Prop := fnExactPowModRow.holds Tryd.pinned (OpenSpec.ofChange fnExactPowModWrong)

/-- 'laws.FnExactInvMod': WHATEVER THE INPUT: true; the input reads as it did. -/
def fnExactInvModSpec : ChangeSpec := { name := "fnExactInvMod", vars := ["loop.example/g00043/impl.primes"], fn := fun _ => fun
  | [d1, d2, g1] => { results := [.lit (.bool true)], args := [d1, d2], vars := [g1] }
  | _ => none }
def fnExactInvModRow : OpenClaim := { program := "ytokpgbcmlinnmaadoor", sum := "cda19d0a218be3aadb064c16302e754496f3c4a6a69d66efe4c782119a65c9a3", func := "loop.example/g00043/laws.FnExactInvMod", spec := "fnExactInvMod", named := ["loop.example/g00043/impl.primes"], apart := false, laid := [("loop.example/g00043/impl.primes", laid_loop_example_g00043_impl_primes)] }
def FnExactInvModSaid : Prop := fnExactInvModRow.holds Tryd.pinned (OpenSpec.ofChange fnExactInvModSpec)

/-- ITS FALSE NEIGHBOUR: 'it returns false'. Refute it at one input. -/
def fnExactInvModWrong : ChangeSpec := { name := "fnExactInvMod", vars := ["loop.example/g00043/impl.primes"], fn := fun _ => fun
  | [d1, d2, g1] => { results := [.lit (.bool false)], args := [d1, d2], vars := [g1] }
  | _ => none }
def FnExactInvModWrongFalsely : Prop := fnExactInvModRow.holds Tryd.pinned (OpenSpec.ofChange fnExactInvModWrong)

/-- 'laws.FnExactUnit': WHATEVER THE INPUT: true; the input reads as it did. -/
def fnExactUnitSpec : ChangeSpec := { name := "fnExactUnit", vars := ["loop.example/g00043/impl.primes"], fn := fun _ => fun
  | [d1, d2, g1] => { results := [.lit (.bool true)], args := [d1, d2], vars := [g1] }
  | _ => none }
def fnExactUnitRow : OpenClaim := { program := "ytokpgbcmlinnmaadoor", sum := "cda19d0a218be3aadb064c16302e754496f3c4a6a69d66efe4c782119a65c9a3", func := "loop.example/g00043/laws.FnExactUnit", spec := "fnExactUnit", named := ["loop.example/g00043/impl.primes"], apart := false, laid := [("loop.example/g00043/impl.primes", laid_loop_example_g00043_impl_primes)] }
def FnExactUnitSaid : Prop := fnExactUnitRow.holds Tryd.pinned (OpenSpec.ofChange fnExactUnitSpec)

/-- ITS FALSE NEIGHBOUR: 'it returns false'. Refute it at one input. -/
def fnExactUnitWrong : ChangeSpec := { name := "fnExactUnit", vars := ["loop.example/g00043/impl.primes"], fn := fun _ => fun
  | [d1, d2, g1] => { results := [.lit (.bool false)], args := [d1, d2], vars := [g1] }
  | _ => none }
def FnExactUnitWrongFalsely : Prop := fnExactUnitRow.holds Tryd.pinned (OpenSpec.ofChange fnExactUnitWrong)

/-- 'laws.FnExactDft': WHATEVER THE INPUT: true; the input reads as it did. -/
def fnExactDftSpec : ChangeSpec := { name := "fnExactDft", vars := ["loop.example/g00043/impl.primes"], fn := fun _ => fun
  | [d1, d2, d3, g1] => { results := [.lit (.bool true)], args := [d1, d2, d3], vars := [g1] }
  | _ => none }
def fnExactDftRow : OpenClaim := { program := "ytokpgbcmlinnmaadoor", sum := "cda19d0a218be3aadb064c16302e754496f3c4a6a69d66efe4c782119a65c9a3", func := "loop.example/g00043/laws.FnExactDft", spec := "fnExactDft", unfollowed := true, recurses := true, named := ["loop.example/g00043/impl.primes"], apart := false, laid := [("loop.example/g00043/impl.primes", laid_loop_example_g00043_impl_primes)] }
def FnExactDftSaid : Prop := fnExactDftRow.holds Tryd.pinned (OpenSpec.ofChange fnExactDftSpec)

/-- ITS FALSE NEIGHBOUR: 'it returns false'. Refute it at one input. -/
def fnExactDftWrong : ChangeSpec := { name := "fnExactDft", vars := ["loop.example/g00043/impl.primes"], fn := fun _ => fun
  | [d1, d2, d3, g1] => { results := [.lit (.bool false)], args := [d1, d2, d3], vars := [g1] }
  | _ => none }
def FnExactDftWrongFalsely : Prop := fnExactDftRow.holds Tryd.pinned (OpenSpec.ofChange fnExactDftWrong)

/-- 'laws.FnExactDft2': WHATEVER THE INPUT: true; the input reads as it did. -/
def fnExactDft2Spec : ChangeSpec := { name := "fnExactDft2", vars := ["loop.example/g00043/impl.primes"], fn := fun _ => fun
  | [d1, d2, d3, g1] => { results := [.lit (.bool true)], args := [d1, d2, d3], vars := [g1] }
  | _ => none }
def fnExactDft2Row : OpenClaim := { program := "ytokpgbcmlinnmaadoor", sum := "cda19d0a218be3aadb064c16302e754496f3c4a6a69d66efe4c782119a65c9a3", func := "loop.example/g00043/laws.FnExactDft2", spec := "fnExactDft2", unfollowed := true, recurses := true, named := ["loop.example/g00043/impl.primes"], apart := false, laid := [("loop.example/g00043/impl.primes", laid_loop_example_g00043_impl_primes)] }
def FnExactDft2Said : Prop := fnExactDft2Row.holds Tryd.pinned (OpenSpec.ofChange fnExactDft2Spec)

/-- ITS FALSE NEIGHBOUR: 'it returns false'. Refute it at one input. -/
def fnExactDft2Wrong : ChangeSpec := { name := "fnExactDft2", vars := ["loop.example/g00043/impl.primes"], fn := fun _ => fun
  | [d1, d2, d3, g1] => { results := [.lit (.bool false)], args := [d1, d2, d3], vars := [g1] }
  | _ => none }
def FnExactDft2WrongFalsely : Prop := fnExactDft2Row.holds Tryd.pinned (OpenSpec.ofChange fnExactDft2Wrong)

/- THE SECOND FORM. 'bulk': how many values and letters a reading holds, each counted each time it is reached (what is shared counts as often as it is met; a slice's spare places count too). A statement '..UptoSaid' is the law's where the arguments, and the package variables that the reading takes, are together of bulk at most 1048576: NARROWER than '..Said'. Prove '..Said' where nothing that the law and all that it calls make is longer than what came in: it says more and counts as full. Else prove '..UptoSaid'. A law counts once. -/
mutual
def uptoBulk {H : Type} : DataW H → Nat
  | .lit (.string bytes) => bytes.length + 1
  | .lit _ => 1
  | .nil => 1
  | .ptr d => uptoBulk d + 1
  | .slice elems spare => uptoBulkAll elems + uptoBulkAll spare + 1
  | .agg parts => uptoBulkAll parts + 1
  | .iface _ d => uptoBulk d + 1
  | .map entries => uptoBulkEntries entries + 1
  | .held _ => 1
def uptoBulkAll {H : Type} : List (DataW H) → Nat
  | [] => 0
  | d :: r => uptoBulk d + uptoBulkAll r
def uptoBulkEntries {H : Type} : List (Lit × DataW H) → Nat
  | [] => 0
  | x :: r => uptoBulkEntry x + uptoBulkEntries r
def uptoBulkEntry {H : Type} : Lit × DataW H → Nat
  | (.string bytes, d) => bytes.length + uptoBulk d + 1
  | (_, d) => uptoBulk d + 1
 end
def uptoSmall : (H : Type) → List (DataW H) → Bool := fun _ ds => decide (uptoBulkAll ds ≤ 1048576)
def OpenSpec.upto (s : _root_.Go.ChangeSpec) : _root_.Go.OpenSpec := { _root_.Go.OpenSpec.ofChange s with cond := some uptoSmall }

/-- 'laws.FnExactPowMod', WHERE WHAT IT READS IS OF BULK AT MOST 1048576: true; the input reads as it did. -/
def fnExactPowModUptoRow : OpenClaim := { program := "ytokpgbcmlinnmaadoor", sum := "cda19d0a218be3aadb064c16302e754496f3c4a6a69d66efe4c782119a65c9a3", func := "loop.example/g00043/laws.FnExactPowMod", spec := "fnExactPowMod", named := ["loop.example/g00043/impl.primes"], apart := false, laid := [("loop.example/g00043/impl.primes", laid_loop_example_g00043_impl_primes)], narrowed := true }
def FnExactPowModUptoSaid : Prop := fnExactPowModUptoRow.holds Tryd.pinned (OpenSpec.upto fnExactPowModSpec)

/-- 'laws.FnExactInvMod', WHERE WHAT IT READS IS OF BULK AT MOST 1048576: true; the input reads as it did. -/
def fnExactInvModUptoRow : OpenClaim := { program := "ytokpgbcmlinnmaadoor", sum := "cda19d0a218be3aadb064c16302e754496f3c4a6a69d66efe4c782119a65c9a3", func := "loop.example/g00043/laws.FnExactInvMod", spec := "fnExactInvMod", named := ["loop.example/g00043/impl.primes"], apart := false, laid := [("loop.example/g00043/impl.primes", laid_loop_example_g00043_impl_primes)], narrowed := true }
def FnExactInvModUptoSaid : Prop := fnExactInvModUptoRow.holds Tryd.pinned (OpenSpec.upto fnExactInvModSpec)

/-- 'laws.FnExactUnit', WHERE WHAT IT READS IS OF BULK AT MOST 1048576: true; the input reads as it did. -/
def fnExactUnitUptoRow : OpenClaim := { program := "ytokpgbcmlinnmaadoor", sum := "cda19d0a218be3aadb064c16302e754496f3c4a6a69d66efe4c782119a65c9a3", func := "loop.example/g00043/laws.FnExactUnit", spec := "fnExactUnit", named := ["loop.example/g00043/impl.primes"], apart := false, laid := [("loop.example/g00043/impl.primes", laid_loop_example_g00043_impl_primes)], narrowed := true }
def FnExactUnitUptoSaid : Prop := fnExactUnitUptoRow.holds Tryd.pinned (OpenSpec.upto fnExactUnitSpec)

/-- 'laws.FnExactDft', WHERE WHAT IT READS IS OF BULK AT MOST 1048576: true; the input reads as it did. -/
def fnExactDftUptoRow : OpenClaim := { program := "ytokpgbcmlinnmaadoor", sum := "cda19d0a218be3aadb064c16302e754496f3c4a6a69d66efe4c782119a65c9a3", func := "loop.example/g00043/laws.FnExactDft", spec := "fnExactDft", unfollowed := true, recurses := true, named := ["loop.example/g00043/impl.primes"], apart := false, laid := [("loop.example/g00043/impl.primes", laid_loop_example_g00043_impl_primes)], narrowed := true }
def FnExactDftUptoSaid : Prop := fnExactDftUptoRow.holds Tryd.pinned (OpenSpec.upto fnExactDftSpec)

/-- 'laws.FnExactDft2', WHERE WHAT IT READS IS OF BULK AT MOST 1048576: true; the input reads as it did. -/
def fnExactDft2UptoRow : OpenClaim := { program := "ytokpgbcmlinnmaadoor", sum := "cda19d0a218be3aadb064c16302e754496f3c4a6a69d66efe4c782119a65c9a3", func := "loop.example/g00043/laws.FnExactDft2", spec := "fnExactDft2", unfollowed := true, recurses := true, named := ["loop.example/g00043/impl.primes"], apart := false, laid := [("loop.example/g00043/impl.primes", laid_loop_example_g00043_impl_primes)], narrowed := true }
def FnExactDft2UptoSaid : Prop := fnExactDft2UptoRow.holds Tryd.pinned (OpenSpec.upto fnExactDft2Spec)

end Rows
end Go.Proofs.YtokpgbcmlinnmaaDoor
