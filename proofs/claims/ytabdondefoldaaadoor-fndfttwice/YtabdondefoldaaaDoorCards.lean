/-
  DERIVED. GIVEN WITH THE SEED: THE CARDS: each row of YtabdondefoldaaaDoorRows.lean that lists a variable, with what it lists TIED to the program's text (the seventh form; the later family's looks); each row that meets fmt, with fmt's text TOLD by the authors' own Lean function (tested against real Go, not proved from fmt's source: count such statements apart). THE CARD IS WHAT COUNTS. Prove the row's statement (the work); the ties are given (YtabdondefoldaaaDoorTie.lean); close each card by the builder's one call (the guide's Derived/Test/ToyasCard.lean, 'card_holds'). Laid BY PROGRAM, IN A SANDBOX (cutbox-door.mjs). By AI agents, Wed Nov 11 2026. No macro, syntax, notation, axiom, sorry.
-/
import Derived.Test.YtabdondefoldaaaDoorRows
import GoSem.ClaimSeven
namespace Go.Proofs.YtabdondefoldaaaDoor
namespace Rows

/-- THE TIED CARD OF 'laws.FnDftTwice'. -/
def fnDftTwiceCard : Claim7 := { stood := { row := fnDftTwiceRow, standIns := [], harness := (true, "f1e0da8ee5103bf44819e9c12dd64dd4e0cfb2ebebf0917fa7da6f81c422b76f"), looks := false }, kinds := [], alts := [], laidByText := true, laidKinds := [.data], laidTests := true, laidLooks := .later }
def FnDftTwiceCardSaid : Prop := Claim7.holds Tryd.pinned (.plain (OpenSpec.ofChange fnDftTwiceSpec)) fnDftTwiceCard

/-- THE SECOND FORM's CARD OF 'laws.FnDftTwice'. -/
def fnDftTwiceUptoCard : Claim7 := { stood := { row := fnDftTwiceUptoRow, standIns := [], harness := (true, "f1e0da8ee5103bf44819e9c12dd64dd4e0cfb2ebebf0917fa7da6f81c422b76f"), looks := false }, kinds := [], alts := [], laidByText := true, laidKinds := [.data], laidTests := true, laidLooks := .later }
def FnDftTwiceUptoCardSaid : Prop := Claim7.holds Tryd.pinned (.plain (OpenSpec.upto fnDftTwiceSpec)) fnDftTwiceUptoCard
end Rows
end Go.Proofs.YtabdondefoldaaaDoor
