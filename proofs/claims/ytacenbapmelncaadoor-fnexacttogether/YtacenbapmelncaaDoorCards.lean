/-
  DERIVED. GIVEN WITH THE SEED: THE CARDS: each row of YtacenbapmelncaaDoorRows.lean that lists a variable, with what it lists TIED to the program's text (the seventh form; the later family's looks); each row that meets fmt, with fmt's text TOLD by the authors' own Lean function (tested against real Go, not proved from fmt's source: count such statements apart). THE CARD IS WHAT COUNTS. Prove the row's statement (the work); the ties are given (YtacenbapmelncaaDoorTie.lean); close each card by the builder's one call (the guide's Derived/Test/ToyasCard.lean, 'card_holds'). Laid BY PROGRAM, IN A SANDBOX (cutbox-door.mjs). By AI agents, Wed Nov 11 2026. No macro, syntax, notation, axiom, sorry.
-/
import Derived.Test.YtacenbapmelncaaDoorRows
import GoSem.ClaimSeven
namespace Go.Proofs.YtacenbapmelncaaDoor
namespace Rows

/-- THE TIED CARD OF 'laws.FnExactTogether'. -/
def fnExactTogetherCard : Claim7 := { stood := { row := fnExactTogetherRow, standIns := [], harness := (true, "36cbcafb7622b01426ab0482880c61dd5c3f5a339abf581922c92a3a6da47a71"), looks := false }, kinds := [], alts := [], laidByText := true, laidKinds := [.data], laidTests := true, laidLooks := .later }
def FnExactTogetherCardSaid : Prop := Claim7.holds Tryd.pinned (.plain (OpenSpec.ofChange fnExactTogetherSpec)) fnExactTogetherCard

/-- THE SECOND FORM's CARD OF 'laws.FnExactTogether'. -/
def fnExactTogetherUptoCard : Claim7 := { stood := { row := fnExactTogetherUptoRow, standIns := [], harness := (true, "36cbcafb7622b01426ab0482880c61dd5c3f5a339abf581922c92a3a6da47a71"), looks := false }, kinds := [], alts := [], laidByText := true, laidKinds := [.data], laidTests := true, laidLooks := .later }
def FnExactTogetherUptoCardSaid : Prop := Claim7.holds Tryd.pinned (.plain (OpenSpec.upto fnExactTogetherSpec)) fnExactTogetherUptoCard
end Rows
end Go.Proofs.YtacenbapmelncaaDoor
