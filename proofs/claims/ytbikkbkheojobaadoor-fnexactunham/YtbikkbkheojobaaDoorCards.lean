/-
  DERIVED. GIVEN WITH THE SEED: THE CARDS: each row of YtbikkbkheojobaaDoorRows.lean that lists a variable, with what it lists TIED to the program's text (the seventh form; the later family's looks); each row that meets fmt, with fmt's text TOLD by the authors' own Lean function (tested against real Go, not proved from fmt's source: count such statements apart). THE CARD IS WHAT COUNTS. Prove the row's statement (the work); the ties are given (YtbikkbkheojobaaDoorTie.lean); close each card by the builder's one call (the guide's Derived/Test/ToyasCard.lean, 'card_holds'). Laid BY PROGRAM, IN A SANDBOX (cutbox-door.mjs). By AI agents, Wed Nov 11 2026. No macro, syntax, notation, axiom, sorry.
-/
import Derived.Test.YtbikkbkheojobaaDoorRows
import GoSem.ClaimSeven
namespace Go.Proofs.YtbikkbkheojobaaDoor
namespace Rows

/-- THE TIED CARD OF 'laws.FnExactHam'. -/
def fnExactHamCard : Claim7 := { stood := { row := fnExactHamRow, standIns := [], harness := (true, "1c80f0227acc83e50f28e757f3d99cc1718f0cc0fe04a42a8015d83335f054d8"), looks := false }, kinds := [], alts := [], laidByText := true, laidKinds := [.data], laidTests := true, laidLooks := .later }
def FnExactHamCardSaid : Prop := Claim7.holds Tryd.pinned (.plain (OpenSpec.ofChange fnExactHamSpec)) fnExactHamCard

/-- THE TIED CARD OF 'laws.FnExactUnHam'. -/
def fnExactUnHamCard : Claim7 := { stood := { row := fnExactUnHamRow, standIns := [], harness := (true, "1c80f0227acc83e50f28e757f3d99cc1718f0cc0fe04a42a8015d83335f054d8"), looks := false }, kinds := [], alts := [], laidByText := true, laidKinds := [.data], laidTests := true, laidLooks := .later }
def FnExactUnHamCardSaid : Prop := Claim7.holds Tryd.pinned (.plain (OpenSpec.ofChange fnExactUnHamSpec)) fnExactUnHamCard

/-- THE SECOND FORM's CARD OF 'laws.FnExactHam'. -/
def fnExactHamUptoCard : Claim7 := { stood := { row := fnExactHamUptoRow, standIns := [], harness := (true, "1c80f0227acc83e50f28e757f3d99cc1718f0cc0fe04a42a8015d83335f054d8"), looks := false }, kinds := [], alts := [], laidByText := true, laidKinds := [.data], laidTests := true, laidLooks := .later }
def FnExactHamUptoCardSaid : Prop := Claim7.holds Tryd.pinned (.plain (OpenSpec.upto fnExactHamSpec)) fnExactHamUptoCard

/-- THE SECOND FORM's CARD OF 'laws.FnExactUnHam'. -/
def fnExactUnHamUptoCard : Claim7 := { stood := { row := fnExactUnHamUptoRow, standIns := [], harness := (true, "1c80f0227acc83e50f28e757f3d99cc1718f0cc0fe04a42a8015d83335f054d8"), looks := false }, kinds := [], alts := [], laidByText := true, laidKinds := [.data], laidTests := true, laidLooks := .later }
def FnExactUnHamUptoCardSaid : Prop := Claim7.holds Tryd.pinned (.plain (OpenSpec.upto fnExactUnHamSpec)) fnExactUnHamUptoCard
end Rows
end Go.Proofs.YtbikkbkheojobaaDoor
