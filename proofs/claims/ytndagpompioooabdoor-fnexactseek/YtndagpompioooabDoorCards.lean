/-
  DERIVED. GIVEN WITH THE SEED: THE CARDS: each row of YtndagpompioooabDoorRows.lean that lists a variable, with what it lists TIED to the program's text (the seventh form; the later family's looks); each row that meets fmt, with fmt's text TOLD by the authors' own Lean function (tested against real Go, not proved from fmt's source: count such statements apart). THE CARD IS WHAT COUNTS. Prove the row's statement (the work); the ties are given (YtndagpompioooabDoorTie.lean); close each card by the builder's one call (the guide's Derived/Test/ToyasCard.lean, 'card_holds'). Laid BY PROGRAM, IN A SANDBOX (cutbox-door.mjs). By AI agents, Wed Nov 11 2026. No macro, syntax, notation, axiom, sorry.
-/
import Derived.Test.YtndagpompioooabDoorRows
import GoSem.ClaimSeven
namespace Go.Proofs.YtndagpompioooabDoor
namespace Rows

/-- THE TIED CARD OF 'laws.FnExactOpenAll'. -/
def fnExactOpenAllCard : Claim7 := { stood := { row := fnExactOpenAllRow, standIns := [], harness := (true, "872fa601aad4b0768c1ea57679f194e0c46fc37fde37e62acb17f1443bb10c15"), looks := true }, kinds := [], alts := [], laidByText := true, laidKinds := [.handle], laidTests := true, laidLooks := .later }
def FnExactOpenAllCardSaid : Prop := Claim7.holds Tryd.pinned (.plain (OpenSpec.ofChange fnExactOpenAllSpec)) fnExactOpenAllCard

/-- THE TIED CARD OF 'laws.FnExactSeek'. -/
def fnExactSeekCard : Claim7 := { stood := { row := fnExactSeekRow, standIns := [], harness := (true, "872fa601aad4b0768c1ea57679f194e0c46fc37fde37e62acb17f1443bb10c15"), looks := true }, kinds := [], alts := [], laidByText := true, laidKinds := [.handle], laidTests := true, laidLooks := .later }
def FnExactSeekCardSaid : Prop := Claim7.holds Tryd.pinned (.plain (OpenSpec.ofChange fnExactSeekSpec)) fnExactSeekCard

/-- THE TIED CARD OF 'laws.FnExactMend'. -/
def fnExactMendCard : Claim7 := { stood := { row := fnExactMendRow, standIns := [], harness := (true, "872fa601aad4b0768c1ea57679f194e0c46fc37fde37e62acb17f1443bb10c15"), looks := true }, kinds := [], alts := [], laidByText := true, laidKinds := [.handle], laidTests := true, laidLooks := .later }
def FnExactMendCardSaid : Prop := Claim7.holds Tryd.pinned (.plain (OpenSpec.ofChange fnExactMendSpec)) fnExactMendCard

/-- THE SECOND FORM's CARD OF 'laws.FnExactOpenAll'. -/
def fnExactOpenAllUptoCard : Claim7 := { stood := { row := fnExactOpenAllUptoRow, standIns := [], harness := (true, "872fa601aad4b0768c1ea57679f194e0c46fc37fde37e62acb17f1443bb10c15"), looks := true }, kinds := [], alts := [], laidByText := true, laidKinds := [.handle], laidTests := true, laidLooks := .later }
def FnExactOpenAllUptoCardSaid : Prop := Claim7.holds Tryd.pinned (.plain (OpenSpec.upto fnExactOpenAllSpec)) fnExactOpenAllUptoCard

/-- THE SECOND FORM's CARD OF 'laws.FnExactSeek'. -/
def fnExactSeekUptoCard : Claim7 := { stood := { row := fnExactSeekUptoRow, standIns := [], harness := (true, "872fa601aad4b0768c1ea57679f194e0c46fc37fde37e62acb17f1443bb10c15"), looks := true }, kinds := [], alts := [], laidByText := true, laidKinds := [.handle], laidTests := true, laidLooks := .later }
def FnExactSeekUptoCardSaid : Prop := Claim7.holds Tryd.pinned (.plain (OpenSpec.upto fnExactSeekSpec)) fnExactSeekUptoCard

/-- THE SECOND FORM's CARD OF 'laws.FnExactMend'. -/
def fnExactMendUptoCard : Claim7 := { stood := { row := fnExactMendUptoRow, standIns := [], harness := (true, "872fa601aad4b0768c1ea57679f194e0c46fc37fde37e62acb17f1443bb10c15"), looks := true }, kinds := [], alts := [], laidByText := true, laidKinds := [.handle], laidTests := true, laidLooks := .later }
def FnExactMendUptoCardSaid : Prop := Claim7.holds Tryd.pinned (.plain (OpenSpec.upto fnExactMendSpec)) fnExactMendUptoCard
end Rows
end Go.Proofs.YtndagpompioooabDoor
