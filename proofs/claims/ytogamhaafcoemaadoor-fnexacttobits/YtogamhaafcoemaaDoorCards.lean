/-
  DERIVED. GIVEN WITH THE SEED: THE CARDS: each row of YtogamhaafcoemaaDoorRows.lean that lists a variable, with what it lists TIED to the program's text (the seventh form; the later family's looks); each row that meets fmt, with fmt's text TOLD by the authors' own Lean function (tested against real Go, not proved from fmt's source: count such statements apart). THE CARD IS WHAT COUNTS. Prove the row's statement (the work); the ties are given (YtogamhaafcoemaaDoorTie.lean); close each card by the builder's one call (the guide's Derived/Test/ToyasCard.lean, 'card_holds'). Laid BY PROGRAM, IN A SANDBOX (cutbox-door.mjs). By AI agents, Wed Nov 11 2026. No macro, syntax, notation, axiom, sorry.
-/
import Derived.Test.YtogamhaafcoemaaDoorRows
import GoSem.ClaimSeven
namespace Go.Proofs.YtogamhaafcoemaaDoor
namespace Rows

/-- THE TIED CARD OF 'laws.FnExactFromBits'. -/
def fnExactFromBitsCard : Claim7 := { stood := { row := fnExactFromBitsRow, standIns := [], harness := (true, "59af0241decdc7b88cb8f158d3932211e3bf9ad34856b90edd334e3a4ac21555"), looks := false }, kinds := [], alts := [], laidByText := true, laidKinds := [.wider], laidTests := true, laidLooks := .later }
def FnExactFromBitsCardSaid : Prop := Claim7.holds Tryd.pinned (.plain (OpenSpec.ofChange fnExactFromBitsSpec)) fnExactFromBitsCard

/-- THE TIED CARD OF 'laws.FnExactToBits'. -/
def fnExactToBitsCard : Claim7 := { stood := { row := fnExactToBitsRow, standIns := [], harness := (true, "59af0241decdc7b88cb8f158d3932211e3bf9ad34856b90edd334e3a4ac21555"), looks := false }, kinds := [], alts := [], laidByText := true, laidKinds := [.wider], laidTests := true, laidLooks := .later }
def FnExactToBitsCardSaid : Prop := Claim7.holds Tryd.pinned (.plain (OpenSpec.ofChange fnExactToBitsSpec)) fnExactToBitsCard

/-- THE TIED CARD OF 'laws.FnExactSortFloats'. -/
def fnExactSortFloatsCard : Claim7 := { stood := { row := fnExactSortFloatsRow, standIns := [], harness := (true, "59af0241decdc7b88cb8f158d3932211e3bf9ad34856b90edd334e3a4ac21555"), looks := false }, kinds := [], alts := [], laidByText := true, laidKinds := [.wider], laidTests := true, laidLooks := .later }
def FnExactSortFloatsCardSaid : Prop := Claim7.holds Tryd.pinned (.plain (OpenSpec.ofChange fnExactSortFloatsSpec)) fnExactSortFloatsCard

/-- THE SECOND FORM's CARD OF 'laws.FnExactFromBits'. -/
def fnExactFromBitsUptoCard : Claim7 := { stood := { row := fnExactFromBitsUptoRow, standIns := [], harness := (true, "59af0241decdc7b88cb8f158d3932211e3bf9ad34856b90edd334e3a4ac21555"), looks := false }, kinds := [], alts := [], laidByText := true, laidKinds := [.wider], laidTests := true, laidLooks := .later }
def FnExactFromBitsUptoCardSaid : Prop := Claim7.holds Tryd.pinned (.plain (OpenSpec.upto fnExactFromBitsSpec)) fnExactFromBitsUptoCard

/-- THE SECOND FORM's CARD OF 'laws.FnExactToBits'. -/
def fnExactToBitsUptoCard : Claim7 := { stood := { row := fnExactToBitsUptoRow, standIns := [], harness := (true, "59af0241decdc7b88cb8f158d3932211e3bf9ad34856b90edd334e3a4ac21555"), looks := false }, kinds := [], alts := [], laidByText := true, laidKinds := [.wider], laidTests := true, laidLooks := .later }
def FnExactToBitsUptoCardSaid : Prop := Claim7.holds Tryd.pinned (.plain (OpenSpec.upto fnExactToBitsSpec)) fnExactToBitsUptoCard

/-- THE SECOND FORM's CARD OF 'laws.FnExactSortFloats'. -/
def fnExactSortFloatsUptoCard : Claim7 := { stood := { row := fnExactSortFloatsUptoRow, standIns := [], harness := (true, "59af0241decdc7b88cb8f158d3932211e3bf9ad34856b90edd334e3a4ac21555"), looks := false }, kinds := [], alts := [], laidByText := true, laidKinds := [.wider], laidTests := true, laidLooks := .later }
def FnExactSortFloatsUptoCardSaid : Prop := Claim7.holds Tryd.pinned (.plain (OpenSpec.upto fnExactSortFloatsSpec)) fnExactSortFloatsUptoCard
end Rows
end Go.Proofs.YtogamhaafcoemaaDoor
