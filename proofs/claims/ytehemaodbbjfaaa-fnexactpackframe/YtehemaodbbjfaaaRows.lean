/-
  No cell of these rows narrows 'for every input' (looked for: loops, veiled, ifaces, maps, wideKeys, modest, calm, conditions, laid).
  DERIVED. THE GIVEN ROWS OF THIS SEAT. 6 by the template 'for every input the law returns true; each argument reads behind the call as it read before'; 0 by the template 'total and deterministic' (their statements: YtehemaodbbjfaaaTotals.lean).
  GIVEN WITH THE SEED: the statements are not yours to turn. If you find one false, say at which input.
  Laid BY PROGRAM, IN A SANDBOX (cutbox-rows.mjs): the forced cells as the released guide's own fill.sh prints them over the translation ed42205a5ffdebec… (all of the seat's roots in one cut). By AI agents, Wed Nov 11 2026. No macro, syntax, notation, axiom, sorry.
-/
import Derived.Test.YtehemaodbbjfaaaChecked
import GoSem.Claim
import GoSem.ClaimJoined
import GoSem.ClaimMapViews
import Derived.JoinedTies
import Derived.KernelRfl
namespace Go.Proofs.Ytehemaodbbjfaaa
/- THE CELL 'sum', in the pinned program and in every row, IS THE sha256 OF THE DUMP (.gsa) THAT YtehemaodbbjfaaaProg.lean LOADS. Nothing in Lean hashes anything: it is a label: what it is worth is what the hold of that sum in a sandbox is worth. -/
noncomputable def Try.pinned : Pinned := { name := "ytehemaodbbjfaaa", sum := "ed42205a5ffdebeca53757199c48ea770f23ed5ca9fafa2cc0a3ba7bda64c879", checked := Try.checked }
namespace Rows
def none {H : Type} : Left H := { results := [], args := [] }

/-- 'laws.FnGuessed': WHATEVER THE INPUT: true; the input reads as it did. -/
def fnGuessedSpec : ChangeSpec := { name := "fnGuessed", fn := fun _ => fun
  | [d] => { results := [.lit (.bool true)], args := [d] }
  | _ => none }
def fnGuessedRow : OpenClaim := { program := "ytehemaodbbjfaaa", sum := "ed42205a5ffdebeca53757199c48ea770f23ed5ca9fafa2cc0a3ba7bda64c879", func := "loop.example/g00043/laws.FnGuessed", spec := "fnGuessed", apart := false }
def FnGuessedSaid : Prop := fnGuessedRow.holds Try.pinned (OpenSpec.ofChange fnGuessedSpec)

/-- ITS FALSE NEIGHBOUR: 'it returns false'. Refute it at one input. -/
def fnGuessedWrong : ChangeSpec := { name := "fnGuessed", fn := fun _ => fun
  | [d] => { results := [.lit (.bool false)], args := [d] }
  | _ => none }
def FnGuessedWrongFalsely : Prop := fnGuessedRow.holds Try.pinned (OpenSpec.ofChange fnGuessedWrong)

/-- 'laws.FnExactGuess': WHATEVER THE INPUT: true; the input reads as it did. -/
def fnExactGuessSpec : ChangeSpec := { name := "fnExactGuess", fn := fun _ => fun
  | [d1, d2] => { results := [.lit (.bool true)], args := [d1, d2] }
  | _ => none }
def fnExactGuessRow : OpenClaim := { program := "ytehemaodbbjfaaa", sum := "ed42205a5ffdebeca53757199c48ea770f23ed5ca9fafa2cc0a3ba7bda64c879", func := "loop.example/g00043/laws.FnExactGuess", spec := "fnExactGuess", apart := false }
def FnExactGuessSaid : Prop := fnExactGuessRow.holds Try.pinned (OpenSpec.ofChange fnExactGuessSpec)

/-- ITS FALSE NEIGHBOUR: 'it returns false'. Refute it at one input. -/
def fnExactGuessWrong : ChangeSpec := { name := "fnExactGuess", fn := fun _ => fun
  | [d1, d2] => { results := [.lit (.bool false)], args := [d1, d2] }
  | _ => none }
def FnExactGuessWrongFalsely : Prop := fnExactGuessRow.holds Try.pinned (OpenSpec.ofChange fnExactGuessWrong)

/-- 'laws.FnExactUnGuess': WHATEVER THE INPUT: true; the input reads as it did. -/
def fnExactUnGuessSpec : ChangeSpec := { name := "fnExactUnGuess", fn := fun _ => fun
  | [d1, d2] => { results := [.lit (.bool true)], args := [d1, d2] }
  | _ => none }
def fnExactUnGuessRow : OpenClaim := { program := "ytehemaodbbjfaaa", sum := "ed42205a5ffdebeca53757199c48ea770f23ed5ca9fafa2cc0a3ba7bda64c879", func := "loop.example/g00043/laws.FnExactUnGuess", spec := "fnExactUnGuess", apart := false }
def FnExactUnGuessSaid : Prop := fnExactUnGuessRow.holds Try.pinned (OpenSpec.ofChange fnExactUnGuessSpec)

/-- ITS FALSE NEIGHBOUR: 'it returns false'. Refute it at one input. -/
def fnExactUnGuessWrong : ChangeSpec := { name := "fnExactUnGuess", fn := fun _ => fun
  | [d1, d2] => { results := [.lit (.bool false)], args := [d1, d2] }
  | _ => none }
def FnExactUnGuessWrongFalsely : Prop := fnExactUnGuessRow.holds Try.pinned (OpenSpec.ofChange fnExactUnGuessWrong)

/-- 'laws.FnExactRice': WHATEVER THE INPUT: true; the input reads as it did. -/
def fnExactRiceSpec : ChangeSpec := { name := "fnExactRice", fn := fun _ => fun
  | [d1, d2] => { results := [.lit (.bool true)], args := [d1, d2] }
  | _ => none }
def fnExactRiceRow : OpenClaim := { program := "ytehemaodbbjfaaa", sum := "ed42205a5ffdebeca53757199c48ea770f23ed5ca9fafa2cc0a3ba7bda64c879", func := "loop.example/g00043/laws.FnExactRice", spec := "fnExactRice", apart := false }
def FnExactRiceSaid : Prop := fnExactRiceRow.holds Try.pinned (OpenSpec.ofChange fnExactRiceSpec)

/-- ITS FALSE NEIGHBOUR: 'it returns false'. Refute it at one input. -/
def fnExactRiceWrong : ChangeSpec := { name := "fnExactRice", fn := fun _ => fun
  | [d1, d2] => { results := [.lit (.bool false)], args := [d1, d2] }
  | _ => none }
def FnExactRiceWrongFalsely : Prop := fnExactRiceRow.holds Try.pinned (OpenSpec.ofChange fnExactRiceWrong)

/-- 'laws.FnExactBestRice': WHATEVER THE INPUT: true; the input reads as it did. -/
def fnExactBestRiceSpec : ChangeSpec := { name := "fnExactBestRice", fn := fun _ => fun
  | [d] => { results := [.lit (.bool true)], args := [d] }
  | _ => none }
def fnExactBestRiceRow : OpenClaim := { program := "ytehemaodbbjfaaa", sum := "ed42205a5ffdebeca53757199c48ea770f23ed5ca9fafa2cc0a3ba7bda64c879", func := "loop.example/g00043/laws.FnExactBestRice", spec := "fnExactBestRice", apart := false }
def FnExactBestRiceSaid : Prop := fnExactBestRiceRow.holds Try.pinned (OpenSpec.ofChange fnExactBestRiceSpec)

/-- ITS FALSE NEIGHBOUR: 'it returns false'. Refute it at one input. -/
def fnExactBestRiceWrong : ChangeSpec := { name := "fnExactBestRice", fn := fun _ => fun
  | [d] => { results := [.lit (.bool false)], args := [d] }
  | _ => none }
def FnExactBestRiceWrongFalsely : Prop := fnExactBestRiceRow.holds Try.pinned (OpenSpec.ofChange fnExactBestRiceWrong)

/-- 'laws.FnExactPackFrame': WHATEVER THE INPUT: true; the input reads as it did. -/
def fnExactPackFrameSpec : ChangeSpec := { name := "fnExactPackFrame", fn := fun _ => fun
  | [d] => { results := [.lit (.bool true)], args := [d] }
  | _ => none }
def fnExactPackFrameRow : OpenClaim := { program := "ytehemaodbbjfaaa", sum := "ed42205a5ffdebeca53757199c48ea770f23ed5ca9fafa2cc0a3ba7bda64c879", func := "loop.example/g00043/laws.FnExactPackFrame", spec := "fnExactPackFrame", apart := false }
def FnExactPackFrameSaid : Prop := fnExactPackFrameRow.holds Try.pinned (OpenSpec.ofChange fnExactPackFrameSpec)

/-- ITS FALSE NEIGHBOUR: 'it returns false'. Refute it at one input. -/
def fnExactPackFrameWrong : ChangeSpec := { name := "fnExactPackFrame", fn := fun _ => fun
  | [d] => { results := [.lit (.bool false)], args := [d] }
  | _ => none }
def FnExactPackFrameWrongFalsely : Prop := fnExactPackFrameRow.holds Try.pinned (OpenSpec.ofChange fnExactPackFrameWrong)

/- THE SECOND FORM. 'bulk': how many values and letters a reading holds, each counted each time it is reached (what is shared counts as often as it is met; a slice's spare places count too). A statement '..UptoSaid' is the law's where the arguments, and the package variables that the reading takes, are together of bulk at most 1048576: NARROWER than '..Said'. Prove '..Said' where nothing that the law and all that it calls make is longer than what came in: it says more and counts as full. Else prove '..UptoSaid'. A law counts once. -/
mutual
def uptoBulk {H : Type} : DataW H → Nat
  | .lit (.string bytes) => bytes.length + 1
  | .lit _ => 1
  | .nil => 1
  | .ptr d => uptoBulk d + 1
  | .slice elems spare => uptoBulkAll elems + uptoBulkAll spare + 1
  | .agg parts => uptoBulkAll parts + 1
  | .iface _ d => uptoBulk d + 1
  | .map entries => uptoBulkEntries entries + 1
  | .held _ => 1
def uptoBulkAll {H : Type} : List (DataW H) → Nat
  | [] => 0
  | d :: r => uptoBulk d + uptoBulkAll r
def uptoBulkEntries {H : Type} : List (Lit × DataW H) → Nat
  | [] => 0
  | x :: r => uptoBulkEntry x + uptoBulkEntries r
def uptoBulkEntry {H : Type} : Lit × DataW H → Nat
  | (.string bytes, d) => bytes.length + uptoBulk d + 1
  | (_, d) => uptoBulk d + 1
 end
def uptoSmall : (H : Type) → List (DataW H) → Bool := fun _ ds => decide (uptoBulkAll ds ≤ 1048576)
def OpenSpec.upto (s : _root_.Go.ChangeSpec) : _root_.Go.OpenSpec := { _root_.Go.OpenSpec.ofChange s with cond := some uptoSmall }

/-- 'laws.FnGuessed', WHERE WHAT IT READS IS OF BULK AT MOST 1048576: true; the input reads as it did. -/
def fnGuessedUptoRow : OpenClaim := { program := "ytehemaodbbjfaaa", sum := "ed42205a5ffdebeca53757199c48ea770f23ed5ca9fafa2cc0a3ba7bda64c879", func := "loop.example/g00043/laws.FnGuessed", spec := "fnGuessed", apart := false, narrowed := true }
def FnGuessedUptoSaid : Prop := fnGuessedUptoRow.holds Try.pinned (OpenSpec.upto fnGuessedSpec)

/-- 'laws.FnExactGuess', WHERE WHAT IT READS IS OF BULK AT MOST 1048576: true; the input reads as it did. -/
def fnExactGuessUptoRow : OpenClaim := { program := "ytehemaodbbjfaaa", sum := "ed42205a5ffdebeca53757199c48ea770f23ed5ca9fafa2cc0a3ba7bda64c879", func := "loop.example/g00043/laws.FnExactGuess", spec := "fnExactGuess", apart := false, narrowed := true }
def FnExactGuessUptoSaid : Prop := fnExactGuessUptoRow.holds Try.pinned (OpenSpec.upto fnExactGuessSpec)

/-- 'laws.FnExactUnGuess', WHERE WHAT IT READS IS OF BULK AT MOST 1048576: true; the input reads as it did. -/
def fnExactUnGuessUptoRow : OpenClaim := { program := "ytehemaodbbjfaaa", sum := "ed42205a5ffdebeca53757199c48ea770f23ed5ca9fafa2cc0a3ba7bda64c879", func := "loop.example/g00043/laws.FnExactUnGuess", spec := "fnExactUnGuess", apart := false, narrowed := true }
def FnExactUnGuessUptoSaid : Prop := fnExactUnGuessUptoRow.holds Try.pinned (OpenSpec.upto fnExactUnGuessSpec)

/-- 'laws.FnExactRice', WHERE WHAT IT READS IS OF BULK AT MOST 1048576: true; the input reads as it did. -/
def fnExactRiceUptoRow : OpenClaim := { program := "ytehemaodbbjfaaa", sum := "ed42205a5ffdebeca53757199c48ea770f23ed5ca9fafa2cc0a3ba7bda64c879", func := "loop.example/g00043/laws.FnExactRice", spec := "fnExactRice", apart := false, narrowed := true }
def FnExactRiceUptoSaid : Prop := fnExactRiceUptoRow.holds Try.pinned (OpenSpec.upto fnExactRiceSpec)

/-- 'laws.FnExactBestRice', WHERE WHAT IT READS IS OF BULK AT MOST 1048576: true; the input reads as it did. -/
def fnExactBestRiceUptoRow : OpenClaim := { program := "ytehemaodbbjfaaa", sum := "ed42205a5ffdebeca53757199c48ea770f23ed5ca9fafa2cc0a3ba7bda64c879", func := "loop.example/g00043/laws.FnExactBestRice", spec := "fnExactBestRice", apart := false, narrowed := true }
def FnExactBestRiceUptoSaid : Prop := fnExactBestRiceUptoRow.holds Try.pinned (OpenSpec.upto fnExactBestRiceSpec)

/-- 'laws.FnExactPackFrame', WHERE WHAT IT READS IS OF BULK AT MOST 1048576: true; the input reads as it did. -/
def fnExactPackFrameUptoRow : OpenClaim := { program := "ytehemaodbbjfaaa", sum := "ed42205a5ffdebeca53757199c48ea770f23ed5ca9fafa2cc0a3ba7bda64c879", func := "loop.example/g00043/laws.FnExactPackFrame", spec := "fnExactPackFrame", apart := false, narrowed := true }
def FnExactPackFrameUptoSaid : Prop := fnExactPackFrameUptoRow.holds Try.pinned (OpenSpec.upto fnExactPackFrameSpec)

end Rows
end Go.Proofs.Ytehemaodbbjfaaa
