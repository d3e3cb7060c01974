/-
  NARROWER THAN 'FOR EVERY INPUT', by the rows' own cells (each row's printed sentence says how): FnRiced: laid · FnFiled: laid · FnCutFile: laid · FnFrameHurt: laid · FnExactUnRice: laid · FnExactOpenFrame: laid.
  DERIVED. THE GIVEN ROWS OF THIS SEAT. 6 by the template 'for every input the law returns true; each argument reads behind the call as it read before'; 0 by the template 'total and deterministic' (their statements: YtndagpompioooaaDoorTotals.lean).
  GIVEN WITH THE SEED: the statements are not yours to turn. If you find one false, say at which input.
  Laid BY PROGRAM, IN A SANDBOX (cutbox-rows.mjs): the forced cells as the released guide's own fill.sh prints them over the translation f729cdd680746fe6… (all of the seat's roots in one cut). By AI agents, Wed Nov 11 2026. No macro, syntax, notation, axiom, sorry.
-/
import Derived.Test.YtndagpompioooaaDoorChecked
import GoSem.Claim
import GoSem.ClaimJoined
import GoSem.ClaimMapViews
import Derived.JoinedTies
import Derived.KernelRfl
namespace Go.Proofs.YtndagpompioooaaDoor
/- THE CELL 'sum', in the pinned program and in every row, IS THE sha256 OF THE DUMP (.gsa) THAT YtndagpompioooaaDoorProg.lean LOADS. Nothing in Lean hashes anything: it is a label: what it is worth is what the hold of that sum in a sandbox is worth. -/
noncomputable def Tryd.pinned : Pinned := { name := "ytndagpompioooaadoor", sum := "f729cdd680746fe630aded35c31548b74bb845cec9accfb2e236a660796d1d2b", checked := Tryd.checked }
namespace Rows
def none {H : Type} : Left H := { results := [], args := [] }

/- WHAT THE LISTED PACKAGE-LEVEL VARIABLES READ AS WHEN THE CALL BEGINS. Each datum BY PROGRAM (the guide's laid-datum.mjs) off the statement by which the dump's own 'gosem.cut.vars' lays the variable. In a bare row this is a premise. The card (YtndagpompioooaaDoorCards.lean) ties it to the program's text. -/
def laid_errors_errorType {H : Type} : DataW H := .iface "internal/reflectlite.rtype" (.agg [.ptr (.lit (.string [101, 114, 114, 111, 114]))])

/-- 'laws.FnRiced': WHATEVER THE INPUT: true; the input reads as it did. -/
def fnRicedSpec : ChangeSpec := { name := "fnRiced", fn := fun _ => fun
  | [d] => { results := [.lit (.bool true)], args := [d] }
  | _ => none }
def fnRicedRow : OpenClaim := { program := "ytndagpompioooaadoor", sum := "f729cdd680746fe630aded35c31548b74bb845cec9accfb2e236a660796d1d2b", func := "loop.example/g00043/laws.FnRiced", spec := "fnRiced", inPlace := ["internal/reflectlite.ValueOf", "(internal/reflectlite.Value).Type", "(internal/reflectlite.Value).IsNil", "internal/reflectlite.TypeOf", "(internal/reflectlite.Value).Elem", "(internal/reflectlite.Value).Set"], unfollowed := true, recurses := true, named := ["errors.errorType"], apart := false, laid := [("errors.errorType", laid_errors_errorType)] }
def FnRicedSaid : Prop := fnRicedRow.holds Tryd.pinned (OpenSpec.ofChange fnRicedSpec)

/-- ITS FALSE NEIGHBOUR: 'it returns false'. Refute it at one input. -/
def fnRicedWrong : ChangeSpec := { name := "fnRiced", fn := fun _ => fun
  | [d] => { results := [.lit (.bool false)], args := [d] }
  | _ => none }
def FnRicedWrongFalsely : Prop := fnRicedRow.holds Tryd.pinned (OpenSpec.ofChange fnRicedWrong)

/-- 'laws.FnFiled': WHATEVER THE INPUT: true; the input reads as it did. -/
def fnFiledSpec : ChangeSpec := { name := "fnFiled", fn := fun _ => fun
  | [d] => { results := [.lit (.bool true)], args := [d] }
  | _ => none }
def fnFiledRow : OpenClaim := { program := "ytndagpompioooaadoor", sum := "f729cdd680746fe630aded35c31548b74bb845cec9accfb2e236a660796d1d2b", func := "loop.example/g00043/laws.FnFiled", spec := "fnFiled", inPlace := ["internal/reflectlite.ValueOf", "(internal/reflectlite.Value).Type", "(internal/reflectlite.Value).IsNil", "internal/reflectlite.TypeOf", "(internal/reflectlite.Value).Elem", "(internal/reflectlite.Value).Set"], unfollowed := true, recurses := true, named := ["errors.errorType"], apart := false, laid := [("errors.errorType", laid_errors_errorType)] }
def FnFiledSaid : Prop := fnFiledRow.holds Tryd.pinned (OpenSpec.ofChange fnFiledSpec)

/-- ITS FALSE NEIGHBOUR: 'it returns false'. Refute it at one input. -/
def fnFiledWrong : ChangeSpec := { name := "fnFiled", fn := fun _ => fun
  | [d] => { results := [.lit (.bool false)], args := [d] }
  | _ => none }
def FnFiledWrongFalsely : Prop := fnFiledRow.holds Tryd.pinned (OpenSpec.ofChange fnFiledWrong)

/-- 'laws.FnCutFile': WHATEVER THE INPUT: true; the input reads as it did. -/
def fnCutFileSpec : ChangeSpec := { name := "fnCutFile", fn := fun _ => fun
  | [d] => { results := [.lit (.bool true)], args := [d] }
  | _ => none }
def fnCutFileRow : OpenClaim := { program := "ytndagpompioooaadoor", sum := "f729cdd680746fe630aded35c31548b74bb845cec9accfb2e236a660796d1d2b", func := "loop.example/g00043/laws.FnCutFile", spec := "fnCutFile", inPlace := ["internal/reflectlite.ValueOf", "(internal/reflectlite.Value).Type", "(internal/reflectlite.Value).IsNil", "internal/reflectlite.TypeOf", "(internal/reflectlite.Value).Elem", "(internal/reflectlite.Value).Set"], unfollowed := true, recurses := true, named := ["errors.errorType"], apart := false, laid := [("errors.errorType", laid_errors_errorType)] }
def FnCutFileSaid : Prop := fnCutFileRow.holds Tryd.pinned (OpenSpec.ofChange fnCutFileSpec)

/-- ITS FALSE NEIGHBOUR: 'it returns false'. Refute it at one input. -/
def fnCutFileWrong : ChangeSpec := { name := "fnCutFile", fn := fun _ => fun
  | [d] => { results := [.lit (.bool false)], args := [d] }
  | _ => none }
def FnCutFileWrongFalsely : Prop := fnCutFileRow.holds Tryd.pinned (OpenSpec.ofChange fnCutFileWrong)

/-- 'laws.FnFrameHurt': WHATEVER THE INPUT: true; the input reads as it did. -/
def fnFrameHurtSpec : ChangeSpec := { name := "fnFrameHurt", fn := fun _ => fun
  | [d] => { results := [.lit (.bool true)], args := [d] }
  | _ => none }
def fnFrameHurtRow : OpenClaim := { program := "ytndagpompioooaadoor", sum := "f729cdd680746fe630aded35c31548b74bb845cec9accfb2e236a660796d1d2b", func := "loop.example/g00043/laws.FnFrameHurt", spec := "fnFrameHurt", inPlace := ["internal/reflectlite.ValueOf", "(internal/reflectlite.Value).Type", "(internal/reflectlite.Value).IsNil", "internal/reflectlite.TypeOf", "(internal/reflectlite.Value).Elem", "(internal/reflectlite.Value).Set"], unfollowed := true, recurses := true, named := ["errors.errorType"], apart := false, laid := [("errors.errorType", laid_errors_errorType)] }
def FnFrameHurtSaid : Prop := fnFrameHurtRow.holds Tryd.pinned (OpenSpec.ofChange fnFrameHurtSpec)

/-- ITS FALSE NEIGHBOUR: 'it returns false'. Refute it at one input. -/
def fnFrameHurtWrong : ChangeSpec := { name := "fnFrameHurt", fn := fun _ => fun
  | [d] => { results := [.lit (.bool false)], args := [d] }
  | _ => none }
def FnFrameHurtWrongFalsely : Prop := fnFrameHurtRow.holds Tryd.pinned (OpenSpec.ofChange fnFrameHurtWrong)

/-- 'laws.FnExactUnRice': WHATEVER THE INPUT: true; the input reads as it did. -/
def fnExactUnRiceSpec : ChangeSpec := { name := "fnExactUnRice", fn := fun _ => fun
  | [d1, d2, d3] => { results := [.lit (.bool true)], args := [d1, d2, d3] }
  | _ => none }
def fnExactUnRiceRow : OpenClaim := { program := "ytndagpompioooaadoor", sum := "f729cdd680746fe630aded35c31548b74bb845cec9accfb2e236a660796d1d2b", func := "loop.example/g00043/laws.FnExactUnRice", spec := "fnExactUnRice", inPlace := ["internal/reflectlite.ValueOf", "(internal/reflectlite.Value).Type", "(internal/reflectlite.Value).IsNil", "internal/reflectlite.TypeOf", "(internal/reflectlite.Value).Elem", "(internal/reflectlite.Value).Set"], unfollowed := true, recurses := true, named := ["errors.errorType"], apart := false, laid := [("errors.errorType", laid_errors_errorType)] }
def FnExactUnRiceSaid : Prop := fnExactUnRiceRow.holds Tryd.pinned (OpenSpec.ofChange fnExactUnRiceSpec)

/-- ITS FALSE NEIGHBOUR: 'it returns false'. Refute it at one input. -/
def fnExactUnRiceWrong : ChangeSpec := { name := "fnExactUnRice", fn := fun _ => fun
  | [d1, d2, d3] => { results := [.lit (.bool false)], args := [d1, d2, d3] }
  | _ => none }
def FnExactUnRiceWrongFalsely : Prop := fnExactUnRiceRow.holds Tryd.pinned (OpenSpec.ofChange fnExactUnRiceWrong)

/-- 'laws.FnExactOpenFrame': WHATEVER THE INPUT: true; the input reads as it did. -/
def fnExactOpenFrameSpec : ChangeSpec := { name := "fnExactOpenFrame", fn := fun _ => fun
  | [d1, d2] => { results := [.lit (.bool true)], args := [d1, d2] }
  | _ => none }
def fnExactOpenFrameRow : OpenClaim := { program := "ytndagpompioooaadoor", sum := "f729cdd680746fe630aded35c31548b74bb845cec9accfb2e236a660796d1d2b", func := "loop.example/g00043/laws.FnExactOpenFrame", spec := "fnExactOpenFrame", inPlace := ["internal/reflectlite.ValueOf", "(internal/reflectlite.Value).Type", "(internal/reflectlite.Value).IsNil", "internal/reflectlite.TypeOf", "(internal/reflectlite.Value).Elem", "(internal/reflectlite.Value).Set"], unfollowed := true, recurses := true, named := ["errors.errorType"], apart := false, laid := [("errors.errorType", laid_errors_errorType)] }
def FnExactOpenFrameSaid : Prop := fnExactOpenFrameRow.holds Tryd.pinned (OpenSpec.ofChange fnExactOpenFrameSpec)

/-- ITS FALSE NEIGHBOUR: 'it returns false'. Refute it at one input. -/
def fnExactOpenFrameWrong : ChangeSpec := { name := "fnExactOpenFrame", fn := fun _ => fun
  | [d1, d2] => { results := [.lit (.bool false)], args := [d1, d2] }
  | _ => none }
def FnExactOpenFrameWrongFalsely : Prop := fnExactOpenFrameRow.holds Tryd.pinned (OpenSpec.ofChange fnExactOpenFrameWrong)

/- THE SECOND FORM. 'bulk': how many values and letters a reading holds, each counted each time it is reached (what is shared counts as often as it is met; a slice's spare places count too). A statement '..UptoSaid' is the law's where the arguments, and the package variables that the reading takes, are together of bulk at most 1048576: NARROWER than '..Said'. Prove '..Said' where nothing that the law and all that it calls make is longer than what came in: it says more and counts as full. Else prove '..UptoSaid'. A law counts once. -/
mutual
def uptoBulk {H : Type} : DataW H → Nat
  | .lit (.string bytes) => bytes.length + 1
  | .lit _ => 1
  | .nil => 1
  | .ptr d => uptoBulk d + 1
  | .slice elems spare => uptoBulkAll elems + uptoBulkAll spare + 1
  | .agg parts => uptoBulkAll parts + 1
  | .iface _ d => uptoBulk d + 1
  | .map entries => uptoBulkEntries entries + 1
  | .held _ => 1
def uptoBulkAll {H : Type} : List (DataW H) → Nat
  | [] => 0
  | d :: r => uptoBulk d + uptoBulkAll r
def uptoBulkEntries {H : Type} : List (Lit × DataW H) → Nat
  | [] => 0
  | x :: r => uptoBulkEntry x + uptoBulkEntries r
def uptoBulkEntry {H : Type} : Lit × DataW H → Nat
  | (.string bytes, d) => bytes.length + uptoBulk d + 1
  | (_, d) => uptoBulk d + 1
 end
def uptoSmall : (H : Type) → List (DataW H) → Bool := fun _ ds => decide (uptoBulkAll ds ≤ 1048576)
def OpenSpec.upto (s : _root_.Go.ChangeSpec) : _root_.Go.OpenSpec := { _root_.Go.OpenSpec.ofChange s with cond := some uptoSmall }

/-- 'laws.FnRiced', WHERE WHAT IT READS IS OF BULK AT MOST 1048576: true; the input reads as it did. -/
def fnRicedUptoRow : OpenClaim := { program := "ytndagpompioooaadoor", sum := "f729cdd680746fe630aded35c31548b74bb845cec9accfb2e236a660796d1d2b", func := "loop.example/g00043/laws.FnRiced", spec := "fnRiced", inPlace := ["internal/reflectlite.ValueOf", "(internal/reflectlite.Value).Type", "(internal/reflectlite.Value).IsNil", "internal/reflectlite.TypeOf", "(internal/reflectlite.Value).Elem", "(internal/reflectlite.Value).Set"], unfollowed := true, recurses := true, named := ["errors.errorType"], apart := false, laid := [("errors.errorType", laid_errors_errorType)], narrowed := true }
def FnRicedUptoSaid : Prop := fnRicedUptoRow.holds Tryd.pinned (OpenSpec.upto fnRicedSpec)

/-- 'laws.FnFiled', WHERE WHAT IT READS IS OF BULK AT MOST 1048576: true; the input reads as it did. -/
def fnFiledUptoRow : OpenClaim := { program := "ytndagpompioooaadoor", sum := "f729cdd680746fe630aded35c31548b74bb845cec9accfb2e236a660796d1d2b", func := "loop.example/g00043/laws.FnFiled", spec := "fnFiled", inPlace := ["internal/reflectlite.ValueOf", "(internal/reflectlite.Value).Type", "(internal/reflectlite.Value).IsNil", "internal/reflectlite.TypeOf", "(internal/reflectlite.Value).Elem", "(internal/reflectlite.Value).Set"], unfollowed := true, recurses := true, named := ["errors.errorType"], apart := false, laid := [("errors.errorType", laid_errors_errorType)], narrowed := true }
def FnFiledUptoSaid : Prop := fnFiledUptoRow.holds Tryd.pinned (OpenSpec.upto fnFiledSpec)

/-- 'laws.FnCutFile', WHERE WHAT IT READS IS OF BULK AT MOST 1048576: true; the input reads as it did. -/
def fnCutFileUptoRow : OpenClaim := { program := "ytndagpompioooaadoor", sum := "f729cdd680746fe630aded35c31548b74bb845cec9accfb2e236a660796d1d2b", func := "loop.example/g00043/laws.FnCutFile", spec := "fnCutFile", inPlace := ["internal/reflectlite.ValueOf", "(internal/reflectlite.Value).Type", "(internal/reflectlite.Value).IsNil", "internal/reflectlite.TypeOf", "(internal/reflectlite.Value).Elem", "(internal/reflectlite.Value).Set"], unfollowed := true, recurses := true, named := ["errors.errorType"], apart := false, laid := [("errors.errorType", laid_errors_errorType)], narrowed := true }
def FnCutFileUptoSaid : Prop := fnCutFileUptoRow.holds Tryd.pinned (OpenSpec.upto fnCutFileSpec)

/-- 'laws.FnFrameHurt', WHERE WHAT IT READS IS OF BULK AT MOST 1048576: true; the input reads as it did. -/
def fnFrameHurtUptoRow : OpenClaim := { program := "ytndagpompioooaadoor", sum := "f729cdd680746fe630aded35c31548b74bb845cec9accfb2e236a660796d1d2b", func := "loop.example/g00043/laws.FnFrameHurt", spec := "fnFrameHurt", inPlace := ["internal/reflectlite.ValueOf", "(internal/reflectlite.Value).Type", "(internal/reflectlite.Value).IsNil", "internal/reflectlite.TypeOf", "(internal/reflectlite.Value).Elem", "(internal/reflectlite.Value).Set"], unfollowed := true, recurses := true, named := ["errors.errorType"], apart := false, laid := [("errors.errorType", laid_errors_errorType)], narrowed := true }
def FnFrameHurtUptoSaid : Prop := fnFrameHurtUptoRow.holds Tryd.pinned (OpenSpec.upto fnFrameHurtSpec)

/-- 'laws.FnExactUnRice', WHERE WHAT IT READS IS OF BULK AT MOST 1048576: true; the input reads as it did. -/
def fnExactUnRiceUptoRow : OpenClaim := { program := "ytndagpompioooaadoor", sum := "f729cdd680746fe630aded35c31548b74bb845cec9accfb2e236a660796d1d2b", func := "loop.example/g00043/laws.FnExactUnRice", spec := "fnExactUnRice", inPlace := ["internal/reflectlite.ValueOf", "(internal/reflectlite.Value).Type", "(internal/reflectlite.Value).IsNil", "internal/reflectlite.TypeOf", "(internal/reflectlite.Value).Elem", "(internal/reflectlite.Value).Set"], unfollowed := true, recurses := true, named := ["errors.errorType"], apart := false, laid := [("errors.errorType", laid_errors_errorType)], narrowed := true }
def FnExactUnRiceUptoSaid : Prop := fnExactUnRiceUptoRow.holds Tryd.pinned (OpenSpec.upto fnExactUnRiceSpec)

/-- 'laws.FnExactOpenFrame', WHERE WHAT IT READS IS OF BULK AT MOST 1048576: true; the input reads as it did. -/
def fnExactOpenFrameUptoRow : OpenClaim := { program := "ytndagpompioooaadoor", sum := "f729cdd680746fe630aded35c31548b74bb845cec9accfb2e236a660796d1d2b", func := "loop.example/g00043/laws.FnExactOpenFrame", spec := "fnExactOpenFrame", inPlace := ["internal/reflectlite.ValueOf", "(internal/reflectlite.Value).Type", "(internal/reflectlite.Value).IsNil", "internal/reflectlite.TypeOf", "(internal/reflectlite.Value).Elem", "(internal/reflectlite.Value).Set"], unfollowed := true, recurses := true, named := ["errors.errorType"], apart := false, laid := [("errors.errorType", laid_errors_errorType)], narrowed := true }
def FnExactOpenFrameUptoSaid : Prop := fnExactOpenFrameUptoRow.holds Tryd.pinned (OpenSpec.upto fnExactOpenFrameSpec)

end Rows
end Go.Proofs.YtndagpompioooaaDoor
