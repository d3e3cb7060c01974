/-
  DERIVED. GIVEN WITH THE SEED: THE CARDS: each row of YtpiemjabmipldaaDoorRows.lean that lists a variable, with what it lists TIED to the program's text (the seventh form; the later family's looks); each row that meets fmt, with fmt's text TOLD by the authors' own Lean function (tested against real Go, not proved from fmt's source: count such statements apart). THE CARD IS WHAT COUNTS. Prove the row's statement (the work); the ties are given (YtpiemjabmipldaaDoorTie.lean); close each card by the builder's one call (the guide's Derived/Test/ToyasCard.lean, 'card_holds'). Laid BY PROGRAM, IN A SANDBOX (cutbox-door.mjs). By AI agents, Wed Nov 11 2026. No macro, syntax, notation, axiom, sorry.
-/
import Derived.Test.YtpiemjabmipldaaDoorRows
import GoSem.ClaimSeven
namespace Go.Proofs.YtpiemjabmipldaaDoor
namespace Rows

/-- THE TIED CARD OF 'laws.FnHam'. -/
def fnHamCard : Claim7 := { stood := { row := fnHamRow, standIns := [], harness := (true, "0fe807c2c0549f4998061a8e217b988f05a4054fa412ffac2df29a10e0bbe60f"), looks := false }, kinds := [], alts := [], laidByText := true, laidKinds := [.data], laidTests := true, laidLooks := .later }
def FnHamCardSaid : Prop := Claim7.holds Tryd.pinned (.plain (OpenSpec.ofChange fnHamSpec)) fnHamCard

/-- THE SECOND FORM's CARD OF 'laws.FnHam'. -/
def fnHamUptoCard : Claim7 := { stood := { row := fnHamUptoRow, standIns := [], harness := (true, "0fe807c2c0549f4998061a8e217b988f05a4054fa412ffac2df29a10e0bbe60f"), looks := false }, kinds := [], alts := [], laidByText := true, laidKinds := [.data], laidTests := true, laidLooks := .later }
def FnHamUptoCardSaid : Prop := Claim7.holds Tryd.pinned (.plain (OpenSpec.upto fnHamSpec)) fnHamUptoCard
end Rows
end Go.Proofs.YtpiemjabmipldaaDoor
