/-
  DERIVED. GIVEN WITH THE SEED: THE CARDS: each row of YtlcnciibjhcbiaaDoorRows.lean that lists a variable, with what it lists TIED to the program's text (the seventh form; the later family's looks); each row that meets fmt, with fmt's text TOLD by the authors' own Lean function (tested against real Go, not proved from fmt's source: count such statements apart). THE CARD IS WHAT COUNTS. Prove the row's statement (the work); the ties are given (YtlcnciibjhcbiaaDoorTie.lean); close each card by the builder's one call (the guide's Derived/Test/ToyasCard.lean, 'card_holds'). Laid BY PROGRAM, IN A SANDBOX (cutbox-door.mjs). By AI agents, Wed Nov 11 2026. No macro, syntax, notation, axiom, sorry.
-/
import Derived.Test.YtlcnciibjhcbiaaDoorRows
import GoSem.ClaimSeven
namespace Go.Proofs.YtlcnciibjhcbiaaDoor
namespace Rows

/-- THE TIED CARD OF 'laws.FnExactFourier'. -/
def fnExactFourierCard : Claim7 := { stood := { row := fnExactFourierRow, standIns := [], harness := (true, "dcc04b194914dce5aabbdf8e1858f411b9fe1101ece9997def284d704ff53113"), looks := false }, kinds := [], alts := [], laidByText := true, laidKinds := [.data, .data], laidTests := true, laidLooks := .later }
def FnExactFourierCardSaid : Prop := Claim7.holds Tryd.pinned (.plain (OpenSpec.ofChange fnExactFourierSpec)) fnExactFourierCard

/-- THE TIED CARD OF 'laws.FnExactFast'. -/
def fnExactFastCard : Claim7 := { stood := { row := fnExactFastRow, standIns := [], harness := (true, "dcc04b194914dce5aabbdf8e1858f411b9fe1101ece9997def284d704ff53113"), looks := false }, kinds := [], alts := [], laidByText := true, laidKinds := [.data, .data], laidTests := true, laidLooks := .later }
def FnExactFastCardSaid : Prop := Claim7.holds Tryd.pinned (.plain (OpenSpec.ofChange fnExactFastSpec)) fnExactFastCard

/-- THE TIED CARD OF 'laws.FnExactPieces'. -/
def fnExactPiecesCard : Claim7 := { stood := { row := fnExactPiecesRow, standIns := [], harness := (true, "dcc04b194914dce5aabbdf8e1858f411b9fe1101ece9997def284d704ff53113"), looks := false }, kinds := [], alts := [], laidByText := true, laidKinds := [.data, .data], laidTests := true, laidLooks := .later }
def FnExactPiecesCardSaid : Prop := Claim7.holds Tryd.pinned (.plain (OpenSpec.ofChange fnExactPiecesSpec)) fnExactPiecesCard

/-- THE SECOND FORM's CARD OF 'laws.FnExactFourier'. -/
def fnExactFourierUptoCard : Claim7 := { stood := { row := fnExactFourierUptoRow, standIns := [], harness := (true, "dcc04b194914dce5aabbdf8e1858f411b9fe1101ece9997def284d704ff53113"), looks := false }, kinds := [], alts := [], laidByText := true, laidKinds := [.data, .data], laidTests := true, laidLooks := .later }
def FnExactFourierUptoCardSaid : Prop := Claim7.holds Tryd.pinned (.plain (OpenSpec.upto fnExactFourierSpec)) fnExactFourierUptoCard

/-- THE SECOND FORM's CARD OF 'laws.FnExactFast'. -/
def fnExactFastUptoCard : Claim7 := { stood := { row := fnExactFastUptoRow, standIns := [], harness := (true, "dcc04b194914dce5aabbdf8e1858f411b9fe1101ece9997def284d704ff53113"), looks := false }, kinds := [], alts := [], laidByText := true, laidKinds := [.data, .data], laidTests := true, laidLooks := .later }
def FnExactFastUptoCardSaid : Prop := Claim7.holds Tryd.pinned (.plain (OpenSpec.upto fnExactFastSpec)) fnExactFastUptoCard

/-- THE SECOND FORM's CARD OF 'laws.FnExactPieces'. -/
def fnExactPiecesUptoCard : Claim7 := { stood := { row := fnExactPiecesUptoRow, standIns := [], harness := (true, "dcc04b194914dce5aabbdf8e1858f411b9fe1101ece9997def284d704ff53113"), looks := false }, kinds := [], alts := [], laidByText := true, laidKinds := [.data, .data], laidTests := true, laidLooks := .later }
def FnExactPiecesUptoCardSaid : Prop := Claim7.holds Tryd.pinned (.plain (OpenSpec.upto fnExactPiecesSpec)) fnExactPiecesUptoCard
end Rows
end Go.Proofs.YtlcnciibjhcbiaaDoor
