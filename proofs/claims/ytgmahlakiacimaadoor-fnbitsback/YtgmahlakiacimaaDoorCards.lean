/-
  DERIVED. GIVEN WITH THE SEED: THE CARDS: each row of YtgmahlakiacimaaDoorRows.lean that lists a variable, with what it lists TIED to the program's text (the seventh form; the later family's looks); each row that meets fmt, with fmt's text TOLD by the authors' own Lean function (tested against real Go, not proved from fmt's source: count such statements apart). THE CARD IS WHAT COUNTS. Prove the row's statement (the work); the ties are given (YtgmahlakiacimaaDoorTie.lean); close each card by the builder's one call (the guide's Derived/Test/ToyasCard.lean, 'card_holds'). Laid BY PROGRAM, IN A SANDBOX (cutbox-door.mjs). By AI agents, Wed Nov 11 2026. No macro, syntax, notation, axiom, sorry.
-/
import Derived.Test.YtgmahlakiacimaaDoorRows
import GoSem.ClaimSeven
namespace Go.Proofs.YtgmahlakiacimaaDoor
namespace Rows

/-- THE TIED CARD OF 'laws.FnHard'. -/
def fnHardCard : Claim7 := { stood := { row := fnHardRow, standIns := [], harness := (true, "775acbbc62c61dcbc18e8482abee3bb9e4838df70bd35614d4d72565fa6a9d6f"), looks := false }, kinds := [], alts := [], laidByText := true, laidKinds := [.data, .wider], laidTests := true, laidLooks := .later }
def FnHardCardSaid : Prop := Claim7.holds Tryd.pinned (.plain (OpenSpec.ofChange fnHardSpec)) fnHardCard

/-- THE TIED CARD OF 'laws.FnBitsBack'. -/
def fnBitsBackCard : Claim7 := { stood := { row := fnBitsBackRow, standIns := [], harness := (true, "775acbbc62c61dcbc18e8482abee3bb9e4838df70bd35614d4d72565fa6a9d6f"), looks := false }, kinds := [], alts := [], laidByText := true, laidKinds := [.wider], laidTests := true, laidLooks := .later }
def FnBitsBackCardSaid : Prop := Claim7.holds Tryd.pinned (.plain (OpenSpec.ofChange fnBitsBackSpec)) fnBitsBackCard

/-- THE TIED CARD OF 'laws.FnSummed'. -/
def fnSummedCard : Claim7 := { stood := { row := fnSummedRow, standIns := [], harness := (true, "775acbbc62c61dcbc18e8482abee3bb9e4838df70bd35614d4d72565fa6a9d6f"), looks := false }, kinds := [], alts := [], laidByText := true, laidKinds := [.data, .wider], laidTests := true, laidLooks := .later }
def FnSummedCardSaid : Prop := Claim7.holds Tryd.pinned (.plain (OpenSpec.ofChange fnSummedSpec)) fnSummedCard

/-- THE TIED CARD OF 'laws.FnTwoSum'. -/
def fnTwoSumCard : Claim7 := { stood := { row := fnTwoSumRow, standIns := [], harness := (true, "775acbbc62c61dcbc18e8482abee3bb9e4838df70bd35614d4d72565fa6a9d6f"), looks := false }, kinds := [], alts := [], laidByText := true, laidKinds := [.data, .wider], laidTests := true, laidLooks := .later }
def FnTwoSumCardSaid : Prop := Claim7.holds Tryd.pinned (.plain (OpenSpec.ofChange fnTwoSumSpec)) fnTwoSumCard

/-- THE TIED CARD OF 'laws.FnSorted'. -/
def fnSortedCard : Claim7 := { stood := { row := fnSortedRow, standIns := [], harness := (true, "775acbbc62c61dcbc18e8482abee3bb9e4838df70bd35614d4d72565fa6a9d6f"), looks := false }, kinds := [], alts := [], laidByText := true, laidKinds := [.wider], laidTests := true, laidLooks := .later }
def FnSortedCardSaid : Prop := Claim7.holds Tryd.pinned (.plain (OpenSpec.ofChange fnSortedSpec)) fnSortedCard

/-- THE SECOND FORM's CARD OF 'laws.FnHard'. -/
def fnHardUptoCard : Claim7 := { stood := { row := fnHardUptoRow, standIns := [], harness := (true, "775acbbc62c61dcbc18e8482abee3bb9e4838df70bd35614d4d72565fa6a9d6f"), looks := false }, kinds := [], alts := [], laidByText := true, laidKinds := [.data, .wider], laidTests := true, laidLooks := .later }
def FnHardUptoCardSaid : Prop := Claim7.holds Tryd.pinned (.plain (OpenSpec.upto fnHardSpec)) fnHardUptoCard

/-- THE SECOND FORM's CARD OF 'laws.FnBitsBack'. -/
def fnBitsBackUptoCard : Claim7 := { stood := { row := fnBitsBackUptoRow, standIns := [], harness := (true, "775acbbc62c61dcbc18e8482abee3bb9e4838df70bd35614d4d72565fa6a9d6f"), looks := false }, kinds := [], alts := [], laidByText := true, laidKinds := [.wider], laidTests := true, laidLooks := .later }
def FnBitsBackUptoCardSaid : Prop := Claim7.holds Tryd.pinned (.plain (OpenSpec.upto fnBitsBackSpec)) fnBitsBackUptoCard

/-- THE SECOND FORM's CARD OF 'laws.FnSummed'. -/
def fnSummedUptoCard : Claim7 := { stood := { row := fnSummedUptoRow, standIns := [], harness := (true, "775acbbc62c61dcbc18e8482abee3bb9e4838df70bd35614d4d72565fa6a9d6f"), looks := false }, kinds := [], alts := [], laidByText := true, laidKinds := [.data, .wider], laidTests := true, laidLooks := .later }
def FnSummedUptoCardSaid : Prop := Claim7.holds Tryd.pinned (.plain (OpenSpec.upto fnSummedSpec)) fnSummedUptoCard

/-- THE SECOND FORM's CARD OF 'laws.FnTwoSum'. -/
def fnTwoSumUptoCard : Claim7 := { stood := { row := fnTwoSumUptoRow, standIns := [], harness := (true, "775acbbc62c61dcbc18e8482abee3bb9e4838df70bd35614d4d72565fa6a9d6f"), looks := false }, kinds := [], alts := [], laidByText := true, laidKinds := [.data, .wider], laidTests := true, laidLooks := .later }
def FnTwoSumUptoCardSaid : Prop := Claim7.holds Tryd.pinned (.plain (OpenSpec.upto fnTwoSumSpec)) fnTwoSumUptoCard

/-- THE SECOND FORM's CARD OF 'laws.FnSorted'. -/
def fnSortedUptoCard : Claim7 := { stood := { row := fnSortedUptoRow, standIns := [], harness := (true, "775acbbc62c61dcbc18e8482abee3bb9e4838df70bd35614d4d72565fa6a9d6f"), looks := false }, kinds := [], alts := [], laidByText := true, laidKinds := [.wider], laidTests := true, laidLooks := .later }
def FnSortedUptoCardSaid : Prop := Claim7.holds Tryd.pinned (.plain (OpenSpec.upto fnSortedSpec)) fnSortedUptoCard
end Rows
end Go.Proofs.YtgmahlakiacimaaDoor
