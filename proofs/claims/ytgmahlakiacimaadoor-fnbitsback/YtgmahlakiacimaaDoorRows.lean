/-
  NARROWER THAN 'FOR EVERY INPUT', by the rows' own cells (each row's printed sentence says how): FnHard: laid · FnBitsBack: laid · FnSummed: laid · FnTwoSum: laid · FnSorted: laid.
  DERIVED. THE GIVEN ROWS OF THIS SEAT. 5 by the template 'for every input the law returns true; each argument reads behind the call as it read before'; 0 by the template 'total and deterministic' (their statements: YtgmahlakiacimaaDoorTotals.lean).
  GIVEN WITH THE SEED: the statements are not yours to turn. If you find one false, say at which input.
  Laid BY PROGRAM, IN A SANDBOX (cutbox-rows.mjs): the forced cells as the released guide's own fill.sh prints them over the translation 8cfc102ef4aaec7e… (all of the seat's roots in one cut). By AI agents, Wed Nov 11 2026. No macro, syntax, notation, axiom, sorry.
-/
import Derived.Test.YtgmahlakiacimaaDoorChecked
import GoSem.Claim
import GoSem.ClaimJoined
import GoSem.ClaimMapViews
import Derived.JoinedTies
import Derived.KernelRfl
namespace Go.Proofs.YtgmahlakiacimaaDoor
/- THE CELL 'sum', in the pinned program and in every row, IS THE sha256 OF THE DUMP (.gsa) THAT YtgmahlakiacimaaDoorProg.lean LOADS. Nothing in Lean hashes anything: it is a label: what it is worth is what the hold of that sum in a sandbox is worth. -/
noncomputable def Tryd.pinned : Pinned := { name := "ytgmahlakiacimaadoor", sum := "8cfc102ef4aaec7e3db7fa3a06f2c71e80b720f03d4cb4d5c0eebb87affee000", checked := Tryd.checked }
namespace Rows
def none {H : Type} : Left H := { results := [], args := [] }

/- WHAT THE LISTED PACKAGE-LEVEL VARIABLES READ AS WHEN THE CALL BEGINS. Each datum BY PROGRAM (the guide's laid-datum.mjs) off the statement by which the dump's own 'gosem.cut.vars' lays the variable. In a bare row this is a premise. The card (YtgmahlakiacimaaDoorCards.lean) ties it to the program's text. -/
def laid_math_bits_deBruijn64tab {H : Type} : DataW H := .agg [.lit (.int .u8 0), .lit (.int .u8 1), .lit (.int .u8 56), .lit (.int .u8 2), .lit (.int .u8 57), .lit (.int .u8 49), .lit (.int .u8 28), .lit (.int .u8 3), .lit (.int .u8 61), .lit (.int .u8 58), .lit (.int .u8 42), .lit (.int .u8 50), .lit (.int .u8 38), .lit (.int .u8 29), .lit (.int .u8 17), .lit (.int .u8 4), .lit (.int .u8 62), .lit (.int .u8 47), .lit (.int .u8 59), .lit (.int .u8 36), .lit (.int .u8 45), .lit (.int .u8 43), .lit (.int .u8 51), .lit (.int .u8 22), .lit (.int .u8 53), .lit (.int .u8 39), .lit (.int .u8 33), .lit (.int .u8 30), .lit (.int .u8 24), .lit (.int .u8 18), .lit (.int .u8 12), .lit (.int .u8 5), .lit (.int .u8 63), .lit (.int .u8 55), .lit (.int .u8 48), .lit (.int .u8 27), .lit (.int .u8 60), .lit (.int .u8 41), .lit (.int .u8 37), .lit (.int .u8 16), .lit (.int .u8 46), .lit (.int .u8 35), .lit (.int .u8 44), .lit (.int .u8 21), .lit (.int .u8 52), .lit (.int .u8 32), .lit (.int .u8 23), .lit (.int .u8 11), .lit (.int .u8 54), .lit (.int .u8 26), .lit (.int .u8 40), .lit (.int .u8 15), .lit (.int .u8 34), .lit (.int .u8 20), .lit (.int .u8 31), .lit (.int .u8 10), .lit (.int .u8 25), .lit (.int .u8 14), .lit (.int .u8 19), .lit (.int .u8 9), .lit (.int .u8 13), .lit (.int .u8 8), .lit (.int .u8 7), .lit (.int .u8 6)]
def laid_loop_example_g00043_impl_shapes {H : Type} : DataW H := .agg [.agg [.lit (.int .i64 0), .lit (.int .i64 0), .lit (.int .i64 0)], .agg [.lit (.int .i64 16), .lit (.int .i64 11), .lit (.int .i64 15)], .agg [.lit (.int .i64 32), .lit (.int .i64 24), .lit (.int .i64 127)], .agg [.lit (.int .i64 64), .lit (.int .i64 53), .lit (.int .i64 1023)]]

/-- 'laws.FnHard': WHATEVER THE INPUT: true; the input reads as it did. -/
def fnHardSpec : ChangeSpec := { name := "fnHard", vars := ["loop.example/g00043/impl.shapes"], fn := fun _ => fun
  | [d, g1] => { results := [.lit (.bool true)], args := [d], vars := [g1] }
  | _ => none }
def fnHardRow : OpenClaim := { program := "ytgmahlakiacimaadoor", sum := "8cfc102ef4aaec7e3db7fa3a06f2c71e80b720f03d4cb4d5c0eebb87affee000", func := "loop.example/g00043/laws.FnHard", spec := "fnHard", inPlace := ["math.Float64frombits", "math.Float64bits", "math/bits.Sub64", "math/bits.Add64"], named := ["loop.example/g00043/impl.shapes", "math/bits.deBruijn64tab", "math/bits.divideError", "math/bits.overflowError"], apart := false, laid := [("math/bits.deBruijn64tab", laid_math_bits_deBruijn64tab), ("loop.example/g00043/impl.shapes", laid_loop_example_g00043_impl_shapes)] }
def FnHardSaid : Prop := fnHardRow.holds Tryd.pinned (OpenSpec.ofChange fnHardSpec)

/-- ITS FALSE NEIGHBOUR: 'it returns false'. Refute it at one input. -/
def fnHardWrong : ChangeSpec := { name := "fnHard", vars := ["loop.example/g00043/impl.shapes"], fn := fun _ => fun
  | [d, g1] => { results := [.lit (.bool false)], args := [d], vars := [g1] }
  | _ => none }
def FnHardWrongFalsely : Prop := fnHardRow.holds Tryd.pinned (OpenSpec.ofChange fnHardWrong)

/-- 'laws.FnBitsBack': WHATEVER THE INPUT: true; the input reads as it did. -/
def fnBitsBackSpec : ChangeSpec := { name := "fnBitsBack", vars := ["loop.example/g00043/impl.shapes"], fn := fun _ => fun
  | [d, g1] => { results := [.lit (.bool true)], args := [d], vars := [g1] }
  | _ => none }
def fnBitsBackRow : OpenClaim := { program := "ytgmahlakiacimaadoor", sum := "8cfc102ef4aaec7e3db7fa3a06f2c71e80b720f03d4cb4d5c0eebb87affee000", func := "loop.example/g00043/laws.FnBitsBack", spec := "fnBitsBack", inPlace := ["math.Float64frombits", "math.Float64bits"], named := ["loop.example/g00043/impl.shapes"], apart := false, laid := [("loop.example/g00043/impl.shapes", laid_loop_example_g00043_impl_shapes)] }
def FnBitsBackSaid : Prop := fnBitsBackRow.holds Tryd.pinned (OpenSpec.ofChange fnBitsBackSpec)

/-- ITS FALSE NEIGHBOUR: 'it returns false'. Refute it at one input. -/
def fnBitsBackWrong : ChangeSpec := { name := "fnBitsBack", vars := ["loop.example/g00043/impl.shapes"], fn := fun _ => fun
  | [d, g1] => { results := [.lit (.bool false)], args := [d], vars := [g1] }
  | _ => none }
def FnBitsBackWrongFalsely : Prop := fnBitsBackRow.holds Tryd.pinned (OpenSpec.ofChange fnBitsBackWrong)

/-- 'laws.FnSummed': WHATEVER THE INPUT: true; the input reads as it did. -/
def fnSummedSpec : ChangeSpec := { name := "fnSummed", vars := ["loop.example/g00043/impl.shapes"], fn := fun _ => fun
  | [d, g1] => { results := [.lit (.bool true)], args := [d], vars := [g1] }
  | _ => none }
def fnSummedRow : OpenClaim := { program := "ytgmahlakiacimaadoor", sum := "8cfc102ef4aaec7e3db7fa3a06f2c71e80b720f03d4cb4d5c0eebb87affee000", func := "loop.example/g00043/laws.FnSummed", spec := "fnSummed", inPlace := ["math.Float64bits", "math/bits.Sub64", "math/bits.Add64"], unfollowed := true, recurses := true, named := ["loop.example/g00043/impl.shapes", "math/bits.deBruijn64tab"], apart := false, laid := [("math/bits.deBruijn64tab", laid_math_bits_deBruijn64tab), ("loop.example/g00043/impl.shapes", laid_loop_example_g00043_impl_shapes)] }
def FnSummedSaid : Prop := fnSummedRow.holds Tryd.pinned (OpenSpec.ofChange fnSummedSpec)

/-- ITS FALSE NEIGHBOUR: 'it returns false'. Refute it at one input. -/
def fnSummedWrong : ChangeSpec := { name := "fnSummed", vars := ["loop.example/g00043/impl.shapes"], fn := fun _ => fun
  | [d, g1] => { results := [.lit (.bool false)], args := [d], vars := [g1] }
  | _ => none }
def FnSummedWrongFalsely : Prop := fnSummedRow.holds Tryd.pinned (OpenSpec.ofChange fnSummedWrong)

/-- 'laws.FnTwoSum': WHATEVER THE INPUT: true; the input reads as it did. -/
def fnTwoSumSpec : ChangeSpec := { name := "fnTwoSum", vars := ["loop.example/g00043/impl.shapes"], fn := fun _ => fun
  | [d, g1] => { results := [.lit (.bool true)], args := [d], vars := [g1] }
  | _ => none }
def fnTwoSumRow : OpenClaim := { program := "ytgmahlakiacimaadoor", sum := "8cfc102ef4aaec7e3db7fa3a06f2c71e80b720f03d4cb4d5c0eebb87affee000", func := "loop.example/g00043/laws.FnTwoSum", spec := "fnTwoSum", inPlace := ["math.Float64bits", "math/bits.Sub64", "math/bits.Add64"], named := ["loop.example/g00043/impl.shapes", "math/bits.deBruijn64tab"], apart := false, laid := [("math/bits.deBruijn64tab", laid_math_bits_deBruijn64tab), ("loop.example/g00043/impl.shapes", laid_loop_example_g00043_impl_shapes)] }
def FnTwoSumSaid : Prop := fnTwoSumRow.holds Tryd.pinned (OpenSpec.ofChange fnTwoSumSpec)

/-- ITS FALSE NEIGHBOUR: 'it returns false'. Refute it at one input. -/
def fnTwoSumWrong : ChangeSpec := { name := "fnTwoSum", vars := ["loop.example/g00043/impl.shapes"], fn := fun _ => fun
  | [d, g1] => { results := [.lit (.bool false)], args := [d], vars := [g1] }
  | _ => none }
def FnTwoSumWrongFalsely : Prop := fnTwoSumRow.holds Tryd.pinned (OpenSpec.ofChange fnTwoSumWrong)

/-- 'laws.FnSorted': WHATEVER THE INPUT: true; the input reads as it did. -/
def fnSortedSpec : ChangeSpec := { name := "fnSorted", vars := ["loop.example/g00043/impl.shapes"], fn := fun _ => fun
  | [d, g1] => { results := [.lit (.bool true)], args := [d], vars := [g1] }
  | _ => none }
def fnSortedRow : OpenClaim := { program := "ytgmahlakiacimaadoor", sum := "8cfc102ef4aaec7e3db7fa3a06f2c71e80b720f03d4cb4d5c0eebb87affee000", func := "loop.example/g00043/laws.FnSorted", spec := "fnSorted", inPlace := ["math.Float64bits", "math.Float64frombits"], unfollowed := true, recurses := true, named := ["loop.example/g00043/impl.shapes"], apart := false, laid := [("loop.example/g00043/impl.shapes", laid_loop_example_g00043_impl_shapes)] }
def FnSortedSaid : Prop := fnSortedRow.holds Tryd.pinned (OpenSpec.ofChange fnSortedSpec)

/-- ITS FALSE NEIGHBOUR: 'it returns false'. Refute it at one input. -/
def fnSortedWrong : ChangeSpec := { name := "fnSorted", vars := ["loop.example/g00043/impl.shapes"], fn := fun _ => fun
  | [d, g1] => { results := [.lit (.bool false)], args := [d], vars := [g1] }
  | _ => none }
def FnSortedWrongFalsely : Prop := fnSortedRow.holds Tryd.pinned (OpenSpec.ofChange fnSortedWrong)

/- THE SECOND FORM. 'bulk': how many values and letters a reading holds, each counted each time it is reached (what is shared counts as often as it is met; a slice's spare places count too). A statement '..UptoSaid' is the law's where the arguments, and the package variables that the reading takes, are together of bulk at most 1048576: NARROWER than '..Said'. Prove '..Said' where nothing that the law and all that it calls make is longer than what came in: it says more and counts as full. Else prove '..UptoSaid'. A law counts once. -/
mutual
def uptoBulk {H : Type} : DataW H → Nat
  | .lit (.string bytes) => bytes.length + 1
  | .lit _ => 1
  | .nil => 1
  | .ptr d => uptoBulk d + 1
  | .slice elems spare => uptoBulkAll elems + uptoBulkAll spare + 1
  | .agg parts => uptoBulkAll parts + 1
  | .iface _ d => uptoBulk d + 1
  | .map entries => uptoBulkEntries entries + 1
  | .held _ => 1
def uptoBulkAll {H : Type} : List (DataW H) → Nat
  | [] => 0
  | d :: r => uptoBulk d + uptoBulkAll r
def uptoBulkEntries {H : Type} : List (Lit × DataW H) → Nat
  | [] => 0
  | x :: r => uptoBulkEntry x + uptoBulkEntries r
def uptoBulkEntry {H : Type} : Lit × DataW H → Nat
  | (.string bytes, d) => bytes.length + uptoBulk d + 1
  | (_, d) => uptoBulk d + 1
 end
def uptoSmall : (H : Type) → List (DataW H) → Bool := fun _ ds => decide (uptoBulkAll ds ≤ 1048576)
def OpenSpec.upto (s : _root_.Go.ChangeSpec) : _root_.Go.OpenSpec := { _root_.Go.OpenSpec.ofChange s with cond := some uptoSmall }

/-- 'laws.FnHard', WHERE WHAT IT READS IS OF BULK AT MOST 1048576: true; the input reads as it did. -/
def fnHardUptoRow : OpenClaim := { program := "ytgmahlakiacimaadoor", sum := "8cfc102ef4aaec7e3db7fa3a06f2c71e80b720f03d4cb4d5c0eebb87affee000", func := "loop.example/g00043/laws.FnHard", spec := "fnHard", inPlace := ["math.Float64frombits", "math.Float64bits", "math/bits.Sub64", "math/bits.Add64"], named := ["loop.example/g00043/impl.shapes", "math/bits.deBruijn64tab", "math/bits.divideError", "math/bits.overflowError"], apart := false, laid := [("math/bits.deBruijn64tab", laid_math_bits_deBruijn64tab), ("loop.example/g00043/impl.shapes", laid_loop_example_g00043_impl_shapes)], narrowed := true }
def FnHardUptoSaid : Prop := fnHardUptoRow.holds Tryd.pinned (OpenSpec.upto fnHardSpec)

/-- 'laws.FnBitsBack', WHERE WHAT IT READS IS OF BULK AT MOST 1048576: true; the input reads as it did. -/
def fnBitsBackUptoRow : OpenClaim := { program := "ytgmahlakiacimaadoor", sum := "8cfc102ef4aaec7e3db7fa3a06f2c71e80b720f03d4cb4d5c0eebb87affee000", func := "loop.example/g00043/laws.FnBitsBack", spec := "fnBitsBack", inPlace := ["math.Float64frombits", "math.Float64bits"], named := ["loop.example/g00043/impl.shapes"], apart := false, laid := [("loop.example/g00043/impl.shapes", laid_loop_example_g00043_impl_shapes)], narrowed := true }
def FnBitsBackUptoSaid : Prop := fnBitsBackUptoRow.holds Tryd.pinned (OpenSpec.upto fnBitsBackSpec)

/-- 'laws.FnSummed', WHERE WHAT IT READS IS OF BULK AT MOST 1048576: true; the input reads as it did. -/
def fnSummedUptoRow : OpenClaim := { program := "ytgmahlakiacimaadoor", sum := "8cfc102ef4aaec7e3db7fa3a06f2c71e80b720f03d4cb4d5c0eebb87affee000", func := "loop.example/g00043/laws.FnSummed", spec := "fnSummed", inPlace := ["math.Float64bits", "math/bits.Sub64", "math/bits.Add64"], unfollowed := true, recurses := true, named := ["loop.example/g00043/impl.shapes", "math/bits.deBruijn64tab"], apart := false, laid := [("math/bits.deBruijn64tab", laid_math_bits_deBruijn64tab), ("loop.example/g00043/impl.shapes", laid_loop_example_g00043_impl_shapes)], narrowed := true }
def FnSummedUptoSaid : Prop := fnSummedUptoRow.holds Tryd.pinned (OpenSpec.upto fnSummedSpec)

/-- 'laws.FnTwoSum', WHERE WHAT IT READS IS OF BULK AT MOST 1048576: true; the input reads as it did. -/
def fnTwoSumUptoRow : OpenClaim := { program := "ytgmahlakiacimaadoor", sum := "8cfc102ef4aaec7e3db7fa3a06f2c71e80b720f03d4cb4d5c0eebb87affee000", func := "loop.example/g00043/laws.FnTwoSum", spec := "fnTwoSum", inPlace := ["math.Float64bits", "math/bits.Sub64", "math/bits.Add64"], named := ["loop.example/g00043/impl.shapes", "math/bits.deBruijn64tab"], apart := false, laid := [("math/bits.deBruijn64tab", laid_math_bits_deBruijn64tab), ("loop.example/g00043/impl.shapes", laid_loop_example_g00043_impl_shapes)], narrowed := true }
def FnTwoSumUptoSaid : Prop := fnTwoSumUptoRow.holds Tryd.pinned (OpenSpec.upto fnTwoSumSpec)

/-- 'laws.FnSorted', WHERE WHAT IT READS IS OF BULK AT MOST 1048576: true; the input reads as it did. -/
def fnSortedUptoRow : OpenClaim := { program := "ytgmahlakiacimaadoor", sum := "8cfc102ef4aaec7e3db7fa3a06f2c71e80b720f03d4cb4d5c0eebb87affee000", func := "loop.example/g00043/laws.FnSorted", spec := "fnSorted", inPlace := ["math.Float64bits", "math.Float64frombits"], unfollowed := true, recurses := true, named := ["loop.example/g00043/impl.shapes"], apart := false, laid := [("loop.example/g00043/impl.shapes", laid_loop_example_g00043_impl_shapes)], narrowed := true }
def FnSortedUptoSaid : Prop := fnSortedUptoRow.holds Tryd.pinned (OpenSpec.upto fnSortedSpec)

end Rows
end Go.Proofs.YtgmahlakiacimaaDoor
