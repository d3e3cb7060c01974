/-
  DERIVED. GIVEN WITH THE SEED: THE CARDS: each row of YtcpnmcfpnhokgaaDoorRows.lean that lists a variable, with what it lists TIED to the program's text (the seventh form; the later family's looks); each row that meets fmt, with fmt's text TOLD by the authors' own Lean function (tested against real Go, not proved from fmt's source: count such statements apart). THE CARD IS WHAT COUNTS. Prove the row's statement (the work); the ties are given (YtcpnmcfpnhokgaaDoorTie.lean); close each card by the builder's one call (the guide's Derived/Test/ToyasCard.lean, 'card_holds'). Laid BY PROGRAM, IN A SANDBOX (cutbox-door.mjs). By AI agents, Wed Nov 11 2026. No macro, syntax, notation, axiom, sorry.
-/
import Derived.Test.YtcpnmcfpnhokgaaDoorRows
import GoSem.ClaimSeven
namespace Go.Proofs.YtcpnmcfpnhokgaaDoor
namespace Rows

/-- THE TIED CARD OF 'laws.FnExchanged'. -/
def fnExchangedCard : Claim7 := { stood := { row := fnExchangedRow, standIns := [], harness := (true, "e9b2459eb2ecf0436980988fe1b24134b331f66bf7e7daa5f4766d3926bfebc5"), looks := false }, kinds := [], alts := [], laidByText := true, laidKinds := [.data, .wider], laidTests := true, laidLooks := .later }
def FnExchangedCardSaid : Prop := Claim7.holds Tryd.pinned (.plain (OpenSpec.ofChange fnExchangedSpec)) fnExchangedCard

/-- THE TIED CARD OF 'laws.FnFused'. -/
def fnFusedCard : Claim7 := { stood := { row := fnFusedRow, standIns := [], harness := (true, "e9b2459eb2ecf0436980988fe1b24134b331f66bf7e7daa5f4766d3926bfebc5"), looks := false }, kinds := [], alts := [], laidByText := true, laidKinds := [.data, .wider], laidTests := true, laidLooks := .later }
def FnFusedCardSaid : Prop := Claim7.holds Tryd.pinned (.plain (OpenSpec.ofChange fnFusedSpec)) fnFusedCard

/-- THE TIED CARD OF 'laws.FnRisen'. -/
def fnRisenCard : Claim7 := { stood := { row := fnRisenRow, standIns := [], harness := (true, "e9b2459eb2ecf0436980988fe1b24134b331f66bf7e7daa5f4766d3926bfebc5"), looks := false }, kinds := [], alts := [], laidByText := true, laidKinds := [.data, .wider], laidTests := true, laidLooks := .later }
def FnRisenCardSaid : Prop := Claim7.holds Tryd.pinned (.plain (OpenSpec.ofChange fnRisenSpec)) fnRisenCard

/-- THE SECOND FORM's CARD OF 'laws.FnExchanged'. -/
def fnExchangedUptoCard : Claim7 := { stood := { row := fnExchangedUptoRow, standIns := [], harness := (true, "e9b2459eb2ecf0436980988fe1b24134b331f66bf7e7daa5f4766d3926bfebc5"), looks := false }, kinds := [], alts := [], laidByText := true, laidKinds := [.data, .wider], laidTests := true, laidLooks := .later }
def FnExchangedUptoCardSaid : Prop := Claim7.holds Tryd.pinned (.plain (OpenSpec.upto fnExchangedSpec)) fnExchangedUptoCard

/-- THE SECOND FORM's CARD OF 'laws.FnFused'. -/
def fnFusedUptoCard : Claim7 := { stood := { row := fnFusedUptoRow, standIns := [], harness := (true, "e9b2459eb2ecf0436980988fe1b24134b331f66bf7e7daa5f4766d3926bfebc5"), looks := false }, kinds := [], alts := [], laidByText := true, laidKinds := [.data, .wider], laidTests := true, laidLooks := .later }
def FnFusedUptoCardSaid : Prop := Claim7.holds Tryd.pinned (.plain (OpenSpec.upto fnFusedSpec)) fnFusedUptoCard

/-- THE SECOND FORM's CARD OF 'laws.FnRisen'. -/
def fnRisenUptoCard : Claim7 := { stood := { row := fnRisenUptoRow, standIns := [], harness := (true, "e9b2459eb2ecf0436980988fe1b24134b331f66bf7e7daa5f4766d3926bfebc5"), looks := false }, kinds := [], alts := [], laidByText := true, laidKinds := [.data, .wider], laidTests := true, laidLooks := .later }
def FnRisenUptoCardSaid : Prop := Claim7.holds Tryd.pinned (.plain (OpenSpec.upto fnRisenSpec)) fnRisenUptoCard
end Rows
end Go.Proofs.YtcpnmcfpnhokgaaDoor
