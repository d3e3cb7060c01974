/-
  DERIVED. GIVEN WITH THE SEED: THE CARDS: each row of YtndagpompioooaaDoorRows.lean that lists a variable, with what it lists TIED to the program's text (the seventh form; the later family's looks); each row that meets fmt, with fmt's text TOLD by the authors' own Lean function (tested against real Go, not proved from fmt's source: count such statements apart). THE CARD IS WHAT COUNTS. Prove the row's statement (the work); the ties are given (YtndagpompioooaaDoorTie.lean); close each card by the builder's one call (the guide's Derived/Test/ToyasCard.lean, 'card_holds'). Laid BY PROGRAM, IN A SANDBOX (cutbox-door.mjs). By AI agents, Wed Nov 11 2026. No macro, syntax, notation, axiom, sorry.
-/
import Derived.Test.YtndagpompioooaaDoorRows
import GoSem.ClaimSeven
namespace Go.Proofs.YtndagpompioooaaDoor
namespace Rows

/-- THE TIED CARD OF 'laws.FnRiced'. -/
def fnRicedCard : Claim7 := { stood := { row := fnRicedRow, standIns := [], harness := (true, "e96d58c8fb7cc2c930a47ee365164db4c5fe7d92b3d5cad3c71dfd274a2767ee"), looks := true }, kinds := [], alts := [], laidByText := true, laidKinds := [.handle], laidTests := true, laidLooks := .later }
def FnRicedCardSaid : Prop := Claim7.holds Tryd.pinned (.plain (OpenSpec.ofChange fnRicedSpec)) fnRicedCard

/-- THE TIED CARD OF 'laws.FnFiled'. -/
def fnFiledCard : Claim7 := { stood := { row := fnFiledRow, standIns := [], harness := (true, "e96d58c8fb7cc2c930a47ee365164db4c5fe7d92b3d5cad3c71dfd274a2767ee"), looks := true }, kinds := [], alts := [], laidByText := true, laidKinds := [.handle], laidTests := true, laidLooks := .later }
def FnFiledCardSaid : Prop := Claim7.holds Tryd.pinned (.plain (OpenSpec.ofChange fnFiledSpec)) fnFiledCard

/-- THE TIED CARD OF 'laws.FnCutFile'. -/
def fnCutFileCard : Claim7 := { stood := { row := fnCutFileRow, standIns := [], harness := (true, "e96d58c8fb7cc2c930a47ee365164db4c5fe7d92b3d5cad3c71dfd274a2767ee"), looks := true }, kinds := [], alts := [], laidByText := true, laidKinds := [.handle], laidTests := true, laidLooks := .later }
def FnCutFileCardSaid : Prop := Claim7.holds Tryd.pinned (.plain (OpenSpec.ofChange fnCutFileSpec)) fnCutFileCard

/-- THE TIED CARD OF 'laws.FnFrameHurt'. -/
def fnFrameHurtCard : Claim7 := { stood := { row := fnFrameHurtRow, standIns := [], harness := (true, "e96d58c8fb7cc2c930a47ee365164db4c5fe7d92b3d5cad3c71dfd274a2767ee"), looks := true }, kinds := [], alts := [], laidByText := true, laidKinds := [.handle], laidTests := true, laidLooks := .later }
def FnFrameHurtCardSaid : Prop := Claim7.holds Tryd.pinned (.plain (OpenSpec.ofChange fnFrameHurtSpec)) fnFrameHurtCard

/-- THE TIED CARD OF 'laws.FnExactUnRice'. -/
def fnExactUnRiceCard : Claim7 := { stood := { row := fnExactUnRiceRow, standIns := [], harness := (true, "e96d58c8fb7cc2c930a47ee365164db4c5fe7d92b3d5cad3c71dfd274a2767ee"), looks := true }, kinds := [], alts := [], laidByText := true, laidKinds := [.handle], laidTests := true, laidLooks := .later }
def FnExactUnRiceCardSaid : Prop := Claim7.holds Tryd.pinned (.plain (OpenSpec.ofChange fnExactUnRiceSpec)) fnExactUnRiceCard

/-- THE TIED CARD OF 'laws.FnExactOpenFrame'. -/
def fnExactOpenFrameCard : Claim7 := { stood := { row := fnExactOpenFrameRow, standIns := [], harness := (true, "e96d58c8fb7cc2c930a47ee365164db4c5fe7d92b3d5cad3c71dfd274a2767ee"), looks := true }, kinds := [], alts := [], laidByText := true, laidKinds := [.handle], laidTests := true, laidLooks := .later }
def FnExactOpenFrameCardSaid : Prop := Claim7.holds Tryd.pinned (.plain (OpenSpec.ofChange fnExactOpenFrameSpec)) fnExactOpenFrameCard

/-- THE SECOND FORM's CARD OF 'laws.FnRiced'. -/
def fnRicedUptoCard : Claim7 := { stood := { row := fnRicedUptoRow, standIns := [], harness := (true, "e96d58c8fb7cc2c930a47ee365164db4c5fe7d92b3d5cad3c71dfd274a2767ee"), looks := true }, kinds := [], alts := [], laidByText := true, laidKinds := [.handle], laidTests := true, laidLooks := .later }
def FnRicedUptoCardSaid : Prop := Claim7.holds Tryd.pinned (.plain (OpenSpec.upto fnRicedSpec)) fnRicedUptoCard

/-- THE SECOND FORM's CARD OF 'laws.FnFiled'. -/
def fnFiledUptoCard : Claim7 := { stood := { row := fnFiledUptoRow, standIns := [], harness := (true, "e96d58c8fb7cc2c930a47ee365164db4c5fe7d92b3d5cad3c71dfd274a2767ee"), looks := true }, kinds := [], alts := [], laidByText := true, laidKinds := [.handle], laidTests := true, laidLooks := .later }
def FnFiledUptoCardSaid : Prop := Claim7.holds Tryd.pinned (.plain (OpenSpec.upto fnFiledSpec)) fnFiledUptoCard

/-- THE SECOND FORM's CARD OF 'laws.FnCutFile'. -/
def fnCutFileUptoCard : Claim7 := { stood := { row := fnCutFileUptoRow, standIns := [], harness := (true, "e96d58c8fb7cc2c930a47ee365164db4c5fe7d92b3d5cad3c71dfd274a2767ee"), looks := true }, kinds := [], alts := [], laidByText := true, laidKinds := [.handle], laidTests := true, laidLooks := .later }
def FnCutFileUptoCardSaid : Prop := Claim7.holds Tryd.pinned (.plain (OpenSpec.upto fnCutFileSpec)) fnCutFileUptoCard

/-- THE SECOND FORM's CARD OF 'laws.FnFrameHurt'. -/
def fnFrameHurtUptoCard : Claim7 := { stood := { row := fnFrameHurtUptoRow, standIns := [], harness := (true, "e96d58c8fb7cc2c930a47ee365164db4c5fe7d92b3d5cad3c71dfd274a2767ee"), looks := true }, kinds := [], alts := [], laidByText := true, laidKinds := [.handle], laidTests := true, laidLooks := .later }
def FnFrameHurtUptoCardSaid : Prop := Claim7.holds Tryd.pinned (.plain (OpenSpec.upto fnFrameHurtSpec)) fnFrameHurtUptoCard

/-- THE SECOND FORM's CARD OF 'laws.FnExactUnRice'. -/
def fnExactUnRiceUptoCard : Claim7 := { stood := { row := fnExactUnRiceUptoRow, standIns := [], harness := (true, "e96d58c8fb7cc2c930a47ee365164db4c5fe7d92b3d5cad3c71dfd274a2767ee"), looks := true }, kinds := [], alts := [], laidByText := true, laidKinds := [.handle], laidTests := true, laidLooks := .later }
def FnExactUnRiceUptoCardSaid : Prop := Claim7.holds Tryd.pinned (.plain (OpenSpec.upto fnExactUnRiceSpec)) fnExactUnRiceUptoCard

/-- THE SECOND FORM's CARD OF 'laws.FnExactOpenFrame'. -/
def fnExactOpenFrameUptoCard : Claim7 := { stood := { row := fnExactOpenFrameUptoRow, standIns := [], harness := (true, "e96d58c8fb7cc2c930a47ee365164db4c5fe7d92b3d5cad3c71dfd274a2767ee"), looks := true }, kinds := [], alts := [], laidByText := true, laidKinds := [.handle], laidTests := true, laidLooks := .later }
def FnExactOpenFrameUptoCardSaid : Prop := Claim7.holds Tryd.pinned (.plain (OpenSpec.upto fnExactOpenFrameSpec)) fnExactOpenFrameUptoCard
end Rows
end Go.Proofs.YtndagpompioooaaDoor
