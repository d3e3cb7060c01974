/-
  NARROWER THAN 'FOR EVERY INPUT', by the rows' own cells (each row's printed sentence says how): FnExactFromBits: laid · FnExactToBits: laid · FnExactSortFloats: laid.
  DERIVED. THE GIVEN ROWS OF THIS SEAT. 3 by the template 'for every input the law returns true; each argument reads behind the call as it read before'; 0 by the template 'total and deterministic' (their statements: YtogamhaafcoemaaDoorTotals.lean).
  GIVEN WITH THE SEED: the statements are not yours to turn. If you find one false, say at which input.
  Laid BY PROGRAM, IN A SANDBOX (cutbox-rows.mjs): the forced cells as the released guide's own fill.sh prints them over the translation ec27dee1afb4ac35… (all of the seat's roots in one cut). By AI agents, Wed Nov 11 2026. No macro, syntax, notation, axiom, sorry.
-/
import Derived.Test.YtogamhaafcoemaaDoorChecked
import GoSem.Claim
import GoSem.ClaimJoined
import GoSem.ClaimMapViews
import Derived.JoinedTies
import Derived.KernelRfl
namespace Go.Proofs.YtogamhaafcoemaaDoor
/- THE CELL 'sum', in the pinned program and in every row, IS THE sha256 OF THE DUMP (.gsa) THAT YtogamhaafcoemaaDoorProg.lean LOADS. Nothing in Lean hashes anything: it is a label: what it is worth is what the hold of that sum in a sandbox is worth. -/
noncomputable def Tryd.pinned : Pinned := { name := "ytogamhaafcoemaadoor", sum := "ec27dee1afb4ac35cd3f81f3061ce5e06043e1a1979ae59317cb96b14b535d7d", checked := Tryd.checked }
namespace Rows
def none {H : Type} : Left H := { results := [], args := [] }

/- WHAT THE LISTED PACKAGE-LEVEL VARIABLES READ AS WHEN THE CALL BEGINS. Each datum BY PROGRAM (the guide's laid-datum.mjs) off the statement by which the dump's own 'gosem.cut.vars' lays the variable. In a bare row this is a premise. The card (YtogamhaafcoemaaDoorCards.lean) ties it to the program's text. -/
def laid_loop_example_g00043_impl_shapes {H : Type} : DataW H := .agg [.agg [.lit (.int .i64 0), .lit (.int .i64 0), .lit (.int .i64 0)], .agg [.lit (.int .i64 16), .lit (.int .i64 11), .lit (.int .i64 15)], .agg [.lit (.int .i64 32), .lit (.int .i64 24), .lit (.int .i64 127)], .agg [.lit (.int .i64 64), .lit (.int .i64 53), .lit (.int .i64 1023)]]

/-- 'laws.FnExactFromBits': WHATEVER THE INPUT: true; the input reads as it did. -/
def fnExactFromBitsSpec : ChangeSpec := { name := "fnExactFromBits", vars := ["loop.example/g00043/impl.shapes"], fn := fun _ => fun
  | [d, g1] => { results := [.lit (.bool true)], args := [d], vars := [g1] }
  | _ => none }
def fnExactFromBitsRow : OpenClaim := { program := "ytogamhaafcoemaadoor", sum := "ec27dee1afb4ac35cd3f81f3061ce5e06043e1a1979ae59317cb96b14b535d7d", func := "loop.example/g00043/laws.FnExactFromBits", spec := "fnExactFromBits", inPlace := ["math.Float64frombits"], named := ["loop.example/g00043/impl.shapes"], apart := false, laid := [("loop.example/g00043/impl.shapes", laid_loop_example_g00043_impl_shapes)] }
def FnExactFromBitsSaid : Prop := fnExactFromBitsRow.holds Tryd.pinned (OpenSpec.ofChange fnExactFromBitsSpec)

/-- ITS FALSE NEIGHBOUR: 'it returns false'. Refute it at one input. -/
def fnExactFromBitsWrong : ChangeSpec := { name := "fnExactFromBits", vars := ["loop.example/g00043/impl.shapes"], fn := fun _ => fun
  | [d, g1] => { results := [.lit (.bool false)], args := [d], vars := [g1] }
  | _ => none }
def FnExactFromBitsWrongFalsely : Prop := fnExactFromBitsRow.holds Tryd.pinned (OpenSpec.ofChange fnExactFromBitsWrong)

/-- 'laws.FnExactToBits': WHATEVER THE INPUT: true; the input reads as it did. -/
def fnExactToBitsSpec : ChangeSpec := { name := "fnExactToBits", vars := ["loop.example/g00043/impl.shapes"], fn := fun _ => fun
  | [d, g1] => { results := [.lit (.bool true)], args := [d], vars := [g1] }
  | _ => none }
def fnExactToBitsRow : OpenClaim := { program := "ytogamhaafcoemaadoor", sum := "ec27dee1afb4ac35cd3f81f3061ce5e06043e1a1979ae59317cb96b14b535d7d", func := "loop.example/g00043/laws.FnExactToBits", spec := "fnExactToBits", inPlace := ["math.Float64bits"], named := ["loop.example/g00043/impl.shapes"], apart := false, laid := [("loop.example/g00043/impl.shapes", laid_loop_example_g00043_impl_shapes)] }
def FnExactToBitsSaid : Prop := fnExactToBitsRow.holds Tryd.pinned (OpenSpec.ofChange fnExactToBitsSpec)

/-- ITS FALSE NEIGHBOUR: 'it returns false'. Refute it at one input. -/
def fnExactToBitsWrong : ChangeSpec := { name := "fnExactToBits", vars := ["loop.example/g00043/impl.shapes"], fn := fun _ => fun
  | [d, g1] => { results := [.lit (.bool false)], args := [d], vars := [g1] }
  | _ => none }
def FnExactToBitsWrongFalsely : Prop := fnExactToBitsRow.holds Tryd.pinned (OpenSpec.ofChange fnExactToBitsWrong)

/-- 'laws.FnExactSortFloats': WHATEVER THE INPUT: true; the input reads as it did. -/
def fnExactSortFloatsSpec : ChangeSpec := { name := "fnExactSortFloats", vars := ["loop.example/g00043/impl.shapes"], fn := fun _ => fun
  | [d, g1] => { results := [.lit (.bool true)], args := [d], vars := [g1] }
  | _ => none }
def fnExactSortFloatsRow : OpenClaim := { program := "ytogamhaafcoemaadoor", sum := "ec27dee1afb4ac35cd3f81f3061ce5e06043e1a1979ae59317cb96b14b535d7d", func := "loop.example/g00043/laws.FnExactSortFloats", spec := "fnExactSortFloats", inPlace := ["math.Float64bits", "math.Float64frombits"], unfollowed := true, recurses := true, named := ["loop.example/g00043/impl.shapes"], apart := false, laid := [("loop.example/g00043/impl.shapes", laid_loop_example_g00043_impl_shapes)] }
def FnExactSortFloatsSaid : Prop := fnExactSortFloatsRow.holds Tryd.pinned (OpenSpec.ofChange fnExactSortFloatsSpec)

/-- ITS FALSE NEIGHBOUR: 'it returns false'. Refute it at one input. -/
def fnExactSortFloatsWrong : ChangeSpec := { name := "fnExactSortFloats", vars := ["loop.example/g00043/impl.shapes"], fn := fun _ => fun
  | [d, g1] => { results := [.lit (.bool false)], args := [d], vars := [g1] }
  | _ => none }
def FnExactSortFloatsWrongFalsely : Prop := fnExactSortFloatsRow.holds Tryd.pinned (OpenSpec.ofChange fnExactSortFloatsWrong)

/- THE SECOND FORM. 'bulk': how many values and letters a reading holds, each counted each time it is reached (what is shared counts as often as it is met; a slice's spare places count too). A statement '..UptoSaid' is the law's where the arguments, and the package variables that the reading takes, are together of bulk at most 1048576: NARROWER than '..Said'. Prove '..Said' where nothing that the law and all that it calls make is longer than what came in: it says more and counts as full. Else prove '..UptoSaid'. A law counts once. -/
mutual
def uptoBulk {H : Type} : DataW H → Nat
  | .lit (.string bytes) => bytes.length + 1
  | .lit _ => 1
  | .nil => 1
  | .ptr d => uptoBulk d + 1
  | .slice elems spare => uptoBulkAll elems + uptoBulkAll spare + 1
  | .agg parts => uptoBulkAll parts + 1
  | .iface _ d => uptoBulk d + 1
  | .map entries => uptoBulkEntries entries + 1
  | .held _ => 1
def uptoBulkAll {H : Type} : List (DataW H) → Nat
  | [] => 0
  | d :: r => uptoBulk d + uptoBulkAll r
def uptoBulkEntries {H : Type} : List (Lit × DataW H) → Nat
  | [] => 0
  | x :: r => uptoBulkEntry x + uptoBulkEntries r
def uptoBulkEntry {H : Type} : Lit × DataW H → Nat
  | (.string bytes, d) => bytes.length + uptoBulk d + 1
  | (_, d) => uptoBulk d + 1
 end
def uptoSmall : (H : Type) → List (DataW H) → Bool := fun _ ds => decide (uptoBulkAll ds ≤ 1048576)
def OpenSpec.upto (s : _root_.Go.ChangeSpec) : _root_.Go.OpenSpec := { _root_.Go.OpenSpec.ofChange s with cond := some uptoSmall }

/-- 'laws.FnExactFromBits', WHERE WHAT IT READS IS OF BULK AT MOST 1048576: true; the input reads as it did. -/
def fnExactFromBitsUptoRow : OpenClaim := { program := "ytogamhaafcoemaadoor", sum := "ec27dee1afb4ac35cd3f81f3061ce5e06043e1a1979ae59317cb96b14b535d7d", func := "loop.example/g00043/laws.FnExactFromBits", spec := "fnExactFromBits", inPlace := ["math.Float64frombits"], named := ["loop.example/g00043/impl.shapes"], apart := false, laid := [("loop.example/g00043/impl.shapes", laid_loop_example_g00043_impl_shapes)], narrowed := true }
def FnExactFromBitsUptoSaid : Prop := fnExactFromBitsUptoRow.holds Tryd.pinned (OpenSpec.upto fnExactFromBitsSpec)

/-- 'laws.FnExactToBits', WHERE WHAT IT READS IS OF BULK AT MOST 1048576: true; the input reads as it did. -/
def fnExactToBitsUptoRow : OpenClaim := { program := "ytogamhaafcoemaadoor", sum := "ec27dee1afb4ac35cd3f81f3061ce5e06043e1a1979ae59317cb96b14b535d7d", func := "loop.example/g00043/laws.FnExactToBits", spec := "fnExactToBits", inPlace := ["math.Float64bits"], named := ["loop.example/g00043/impl.shapes"], apart := false, laid := [("loop.example/g00043/impl.shapes", laid_loop_example_g00043_impl_shapes)], narrowed := true }
def FnExactToBitsUptoSaid : Prop := fnExactToBitsUptoRow.holds Tryd.pinned (OpenSpec.upto fnExactToBitsSpec)

/-- 'laws.FnExactSortFloats', WHERE WHAT IT READS IS OF BULK AT MOST 1048576: true; the input reads as it did. -/
def fnExactSortFloatsUptoRow : OpenClaim := { program := "ytogamhaafcoemaadoor", sum := "ec27dee1afb4ac35cd3f81f3061ce5e06043e1a1979ae59317cb96b14b535d7d", func := "loop.example/g00043/laws.FnExactSortFloats", spec := "fnExactSortFloats", inPlace := ["math.Float64bits", "math.Float64frombits"], unfollowed := true, recurses := true, named := ["loop.example/g00043/impl.shapes"], apart := false, laid := [("loop.example/g00043/impl.shapes", laid_loop_example_g00043_impl_shapes)], narrowed := true }
def FnExactSortFloatsUptoSaid : Prop := fnExactSortFloatsUptoRow.holds Tryd.pinned (OpenSpec.upto fnExactSortFloatsSpec)

end Rows
end Go.Proofs.YtogamhaafcoemaaDoor
