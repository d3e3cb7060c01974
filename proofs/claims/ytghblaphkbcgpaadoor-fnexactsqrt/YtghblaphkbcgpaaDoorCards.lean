/-
  DERIVED. GIVEN WITH THE SEED: THE CARDS: each row of YtghblaphkbcgpaaDoorRows.lean that lists a variable, with what it lists TIED to the program's text (the seventh form; the later family's looks); each row that meets fmt, with fmt's text TOLD by the authors' own Lean function (tested against real Go, not proved from fmt's source: count such statements apart). THE CARD IS WHAT COUNTS. Prove the row's statement (the work); the ties are given (YtghblaphkbcgpaaDoorTie.lean); close each card by the builder's one call (the guide's Derived/Test/ToyasCard.lean, 'card_holds'). Laid BY PROGRAM, IN A SANDBOX (cutbox-door.mjs). By AI agents, Wed Nov 11 2026. No macro, syntax, notation, axiom, sorry.
-/
import Derived.Test.YtghblaphkbcgpaaDoorRows
import GoSem.ClaimSeven
namespace Go.Proofs.YtghblaphkbcgpaaDoor
namespace Rows

/-- THE TIED CARD OF 'laws.FnExactSqrt'. -/
def fnExactSqrtCard : Claim7 := { stood := { row := fnExactSqrtRow, standIns := [], harness := (true, "8eb70ecf372fdc4dfc9c1d575b5add99f0a953c16b3c500c041eb17bcfdb9d8b"), looks := false }, kinds := [], alts := [], laidByText := true, laidKinds := [.data, .wider], laidTests := true, laidLooks := .later }
def FnExactSqrtCardSaid : Prop := Claim7.holds Tryd.pinned (.plain (OpenSpec.ofChange fnExactSqrtSpec)) fnExactSqrtCard

/-- THE SECOND FORM's CARD OF 'laws.FnExactSqrt'. -/
def fnExactSqrtUptoCard : Claim7 := { stood := { row := fnExactSqrtUptoRow, standIns := [], harness := (true, "8eb70ecf372fdc4dfc9c1d575b5add99f0a953c16b3c500c041eb17bcfdb9d8b"), looks := false }, kinds := [], alts := [], laidByText := true, laidKinds := [.data, .wider], laidTests := true, laidLooks := .later }
def FnExactSqrtUptoCardSaid : Prop := Claim7.holds Tryd.pinned (.plain (OpenSpec.upto fnExactSqrtSpec)) fnExactSqrtUptoCard
end Rows
end Go.Proofs.YtghblaphkbcgpaaDoor
