/-
  DERIVED. GIVEN WITH THE SEED: THE CARDS: each row of YtokpgbcmlinnmaaDoorRows.lean that lists a variable, with what it lists TIED to the program's text (the seventh form; the later family's looks); each row that meets fmt, with fmt's text TOLD by the authors' own Lean function (tested against real Go, not proved from fmt's source: count such statements apart). THE CARD IS WHAT COUNTS. Prove the row's statement (the work); the ties are given (YtokpgbcmlinnmaaDoorTie.lean); close each card by the builder's one call (the guide's Derived/Test/ToyasCard.lean, 'card_holds'). Laid BY PROGRAM, IN A SANDBOX (cutbox-door.mjs). By AI agents, Wed Nov 11 2026. No macro, syntax, notation, axiom, sorry.
-/
import Derived.Test.YtokpgbcmlinnmaaDoorRows
import GoSem.ClaimSeven
namespace Go.Proofs.YtokpgbcmlinnmaaDoor
namespace Rows

/-- THE TIED CARD OF 'laws.FnExactPowMod'. -/
def fnExactPowModCard : Claim7 := { stood := { row := fnExactPowModRow, standIns := [], harness := (true, "cfe52965af2e16776439c7da51e7a3dd4cb72c155f86c710a5ea8e2cf9df7f87"), looks := false }, kinds := [], alts := [], laidByText := true, laidKinds := [.data], laidTests := true, laidLooks := .later }
def FnExactPowModCardSaid : Prop := Claim7.holds Tryd.pinned (.plain (OpenSpec.ofChange fnExactPowModSpec)) fnExactPowModCard

/-- THE TIED CARD OF 'laws.FnExactInvMod'. -/
def fnExactInvModCard : Claim7 := { stood := { row := fnExactInvModRow, standIns := [], harness := (true, "cfe52965af2e16776439c7da51e7a3dd4cb72c155f86c710a5ea8e2cf9df7f87"), looks := false }, kinds := [], alts := [], laidByText := true, laidKinds := [.data], laidTests := true, laidLooks := .later }
def FnExactInvModCardSaid : Prop := Claim7.holds Tryd.pinned (.plain (OpenSpec.ofChange fnExactInvModSpec)) fnExactInvModCard

/-- THE TIED CARD OF 'laws.FnExactUnit'. -/
def fnExactUnitCard : Claim7 := { stood := { row := fnExactUnitRow, standIns := [], harness := (true, "cfe52965af2e16776439c7da51e7a3dd4cb72c155f86c710a5ea8e2cf9df7f87"), looks := false }, kinds := [], alts := [], laidByText := true, laidKinds := [.data], laidTests := true, laidLooks := .later }
def FnExactUnitCardSaid : Prop := Claim7.holds Tryd.pinned (.plain (OpenSpec.ofChange fnExactUnitSpec)) fnExactUnitCard

/-- THE TIED CARD OF 'laws.FnExactDft'. -/
def fnExactDftCard : Claim7 := { stood := { row := fnExactDftRow, standIns := [], harness := (true, "cfe52965af2e16776439c7da51e7a3dd4cb72c155f86c710a5ea8e2cf9df7f87"), looks := false }, kinds := [], alts := [], laidByText := true, laidKinds := [.data], laidTests := true, laidLooks := .later }
def FnExactDftCardSaid : Prop := Claim7.holds Tryd.pinned (.plain (OpenSpec.ofChange fnExactDftSpec)) fnExactDftCard

/-- THE TIED CARD OF 'laws.FnExactDft2'. -/
def fnExactDft2Card : Claim7 := { stood := { row := fnExactDft2Row, standIns := [], harness := (true, "cfe52965af2e16776439c7da51e7a3dd4cb72c155f86c710a5ea8e2cf9df7f87"), looks := false }, kinds := [], alts := [], laidByText := true, laidKinds := [.data], laidTests := true, laidLooks := .later }
def FnExactDft2CardSaid : Prop := Claim7.holds Tryd.pinned (.plain (OpenSpec.ofChange fnExactDft2Spec)) fnExactDft2Card

/-- THE SECOND FORM's CARD OF 'laws.FnExactPowMod'. -/
def fnExactPowModUptoCard : Claim7 := { stood := { row := fnExactPowModUptoRow, standIns := [], harness := (true, "cfe52965af2e16776439c7da51e7a3dd4cb72c155f86c710a5ea8e2cf9df7f87"), looks := false }, kinds := [], alts := [], laidByText := true, laidKinds := [.data], laidTests := true, laidLooks := .later }
def FnExactPowModUptoCardSaid : Prop := Claim7.holds Tryd.pinned (.plain (OpenSpec.upto fnExactPowModSpec)) fnExactPowModUptoCard

/-- THE SECOND FORM's CARD OF 'laws.FnExactInvMod'. -/
def fnExactInvModUptoCard : Claim7 := { stood := { row := fnExactInvModUptoRow, standIns := [], harness := (true, "cfe52965af2e16776439c7da51e7a3dd4cb72c155f86c710a5ea8e2cf9df7f87"), looks := false }, kinds := [], alts := [], laidByText := true, laidKinds := [.data], laidTests := true, laidLooks := .later }
def FnExactInvModUptoCardSaid : Prop := Claim7.holds Tryd.pinned (.plain (OpenSpec.upto fnExactInvModSpec)) fnExactInvModUptoCard

/-- THE SECOND FORM's CARD OF 'laws.FnExactUnit'. -/
def fnExactUnitUptoCard : Claim7 := { stood := { row := fnExactUnitUptoRow, standIns := [], harness := (true, "cfe52965af2e16776439c7da51e7a3dd4cb72c155f86c710a5ea8e2cf9df7f87"), looks := false }, kinds := [], alts := [], laidByText := true, laidKinds := [.data], laidTests := true, laidLooks := .later }
def FnExactUnitUptoCardSaid : Prop := Claim7.holds Tryd.pinned (.plain (OpenSpec.upto fnExactUnitSpec)) fnExactUnitUptoCard

/-- THE SECOND FORM's CARD OF 'laws.FnExactDft'. -/
def fnExactDftUptoCard : Claim7 := { stood := { row := fnExactDftUptoRow, standIns := [], harness := (true, "cfe52965af2e16776439c7da51e7a3dd4cb72c155f86c710a5ea8e2cf9df7f87"), looks := false }, kinds := [], alts := [], laidByText := true, laidKinds := [.data], laidTests := true, laidLooks := .later }
def FnExactDftUptoCardSaid : Prop := Claim7.holds Tryd.pinned (.plain (OpenSpec.upto fnExactDftSpec)) fnExactDftUptoCard

/-- THE SECOND FORM's CARD OF 'laws.FnExactDft2'. -/
def fnExactDft2UptoCard : Claim7 := { stood := { row := fnExactDft2UptoRow, standIns := [], harness := (true, "cfe52965af2e16776439c7da51e7a3dd4cb72c155f86c710a5ea8e2cf9df7f87"), looks := false }, kinds := [], alts := [], laidByText := true, laidKinds := [.data], laidTests := true, laidLooks := .later }
def FnExactDft2UptoCardSaid : Prop := Claim7.holds Tryd.pinned (.plain (OpenSpec.upto fnExactDft2Spec)) fnExactDft2UptoCard
end Rows
end Go.Proofs.YtokpgbcmlinnmaaDoor
