/-
  DERIVED. GIVEN WITH THE SEED: THE CARDS: each row of YtbbbahbbfaglbaaDoorRows.lean that lists a variable, with what it lists TIED to the program's text (the seventh form; the later family's looks); each row that meets fmt, with fmt's text TOLD by the authors' own Lean function (tested against real Go, not proved from fmt's source: count such statements apart). THE CARD IS WHAT COUNTS. Prove the row's statement (the work); the ties are given (YtbbbahbbfaglbaaDoorTie.lean); close each card by the builder's one call (the guide's Derived/Test/ToyasCard.lean, 'card_holds'). Laid BY PROGRAM, IN A SANDBOX (cutbox-door.mjs). By AI agents, Wed Nov 11 2026. No macro, syntax, notation, axiom, sorry.
-/
import Derived.Test.YtbbbahbbfaglbaaDoorRows
import GoSem.ClaimSeven
namespace Go.Proofs.YtbbbahbbfaglbaaDoor
namespace Rows

/-- THE TIED CARD OF 'laws.FnDftBack'. -/
def fnDftBackCard : Claim7 := { stood := { row := fnDftBackRow, standIns := [], harness := (true, "637ab50ae1a9b713d55f7f6353b7f6e9f02cb69b0959498daa46df5a04143657"), looks := false }, kinds := [], alts := [], laidByText := true, laidKinds := [.data], laidTests := true, laidLooks := .later }
def FnDftBackCardSaid : Prop := Claim7.holds Tryd.pinned (.plain (OpenSpec.ofChange fnDftBackSpec)) fnDftBackCard

/-- THE TIED CARD OF 'laws.FnConvolved'. -/
def fnConvolvedCard : Claim7 := { stood := { row := fnConvolvedRow, standIns := [], harness := (true, "637ab50ae1a9b713d55f7f6353b7f6e9f02cb69b0959498daa46df5a04143657"), looks := false }, kinds := [], alts := [], laidByText := true, laidKinds := [.data], laidTests := true, laidLooks := .later }
def FnConvolvedCardSaid : Prop := Claim7.holds Tryd.pinned (.plain (OpenSpec.ofChange fnConvolvedSpec)) fnConvolvedCard

/-- THE SECOND FORM's CARD OF 'laws.FnDftBack'. -/
def fnDftBackUptoCard : Claim7 := { stood := { row := fnDftBackUptoRow, standIns := [], harness := (true, "637ab50ae1a9b713d55f7f6353b7f6e9f02cb69b0959498daa46df5a04143657"), looks := false }, kinds := [], alts := [], laidByText := true, laidKinds := [.data], laidTests := true, laidLooks := .later }
def FnDftBackUptoCardSaid : Prop := Claim7.holds Tryd.pinned (.plain (OpenSpec.upto fnDftBackSpec)) fnDftBackUptoCard

/-- THE SECOND FORM's CARD OF 'laws.FnConvolved'. -/
def fnConvolvedUptoCard : Claim7 := { stood := { row := fnConvolvedUptoRow, standIns := [], harness := (true, "637ab50ae1a9b713d55f7f6353b7f6e9f02cb69b0959498daa46df5a04143657"), looks := false }, kinds := [], alts := [], laidByText := true, laidKinds := [.data], laidTests := true, laidLooks := .later }
def FnConvolvedUptoCardSaid : Prop := Claim7.holds Tryd.pinned (.plain (OpenSpec.upto fnConvolvedSpec)) fnConvolvedUptoCard
end Rows
end Go.Proofs.YtbbbahbbfaglbaaDoor
