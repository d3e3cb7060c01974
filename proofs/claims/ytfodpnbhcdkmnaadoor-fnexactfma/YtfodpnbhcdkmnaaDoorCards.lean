/-
  DERIVED. GIVEN WITH THE SEED: THE CARDS: each row of YtfodpnbhcdkmnaaDoorRows.lean that lists a variable, with what it lists TIED to the program's text (the seventh form; the later family's looks); each row that meets fmt, with fmt's text TOLD by the authors' own Lean function (tested against real Go, not proved from fmt's source: count such statements apart). THE CARD IS WHAT COUNTS. Prove the row's statement (the work); the ties are given (YtfodpnbhcdkmnaaDoorTie.lean); close each card by the builder's one call (the guide's Derived/Test/ToyasCard.lean, 'card_holds'). Laid BY PROGRAM, IN A SANDBOX (cutbox-door.mjs). By AI agents, Wed Nov 11 2026. No macro, syntax, notation, axiom, sorry.
-/
import Derived.Test.YtfodpnbhcdkmnaaDoorRows
import GoSem.ClaimSeven
namespace Go.Proofs.YtfodpnbhcdkmnaaDoor
namespace Rows

/-- THE TIED CARD OF 'laws.FnExactPack'. -/
def fnExactPackCard : Claim7 := { stood := { row := fnExactPackRow, standIns := [], harness := (true, "b52bd3bbb06138e84128d011176fe9334d7bf3d899c33879e17d7891e9bb7df2"), looks := false }, kinds := [], alts := [], laidByText := true, laidKinds := [.wider], laidTests := true, laidLooks := .later }
def FnExactPackCardSaid : Prop := Claim7.holds Tryd.pinned (.plain (OpenSpec.ofChange fnExactPackSpec)) fnExactPackCard

/-- THE TIED CARD OF 'laws.FnExactAdd'. -/
def fnExactAddCard : Claim7 := { stood := { row := fnExactAddRow, standIns := [], harness := (true, "b52bd3bbb06138e84128d011176fe9334d7bf3d899c33879e17d7891e9bb7df2"), looks := false }, kinds := [], alts := [], laidByText := true, laidKinds := [.data, .wider], laidTests := true, laidLooks := .later }
def FnExactAddCardSaid : Prop := Claim7.holds Tryd.pinned (.plain (OpenSpec.ofChange fnExactAddSpec)) fnExactAddCard

/-- THE TIED CARD OF 'laws.FnExactSub'. -/
def fnExactSubCard : Claim7 := { stood := { row := fnExactSubRow, standIns := [], harness := (true, "b52bd3bbb06138e84128d011176fe9334d7bf3d899c33879e17d7891e9bb7df2"), looks := false }, kinds := [], alts := [], laidByText := true, laidKinds := [.data, .wider], laidTests := true, laidLooks := .later }
def FnExactSubCardSaid : Prop := Claim7.holds Tryd.pinned (.plain (OpenSpec.ofChange fnExactSubSpec)) fnExactSubCard

/-- THE TIED CARD OF 'laws.FnExactMul'. -/
def fnExactMulCard : Claim7 := { stood := { row := fnExactMulRow, standIns := [], harness := (true, "b52bd3bbb06138e84128d011176fe9334d7bf3d899c33879e17d7891e9bb7df2"), looks := false }, kinds := [], alts := [], laidByText := true, laidKinds := [.data, .wider], laidTests := true, laidLooks := .later }
def FnExactMulCardSaid : Prop := Claim7.holds Tryd.pinned (.plain (OpenSpec.ofChange fnExactMulSpec)) fnExactMulCard

/-- THE TIED CARD OF 'laws.FnExactFma'. -/
def fnExactFmaCard : Claim7 := { stood := { row := fnExactFmaRow, standIns := [], harness := (true, "b52bd3bbb06138e84128d011176fe9334d7bf3d899c33879e17d7891e9bb7df2"), looks := false }, kinds := [], alts := [], laidByText := true, laidKinds := [.data, .wider], laidTests := true, laidLooks := .later }
def FnExactFmaCardSaid : Prop := Claim7.holds Tryd.pinned (.plain (OpenSpec.ofChange fnExactFmaSpec)) fnExactFmaCard

/-- THE TIED CARD OF 'laws.FnExactConvert'. -/
def fnExactConvertCard : Claim7 := { stood := { row := fnExactConvertRow, standIns := [], harness := (true, "b52bd3bbb06138e84128d011176fe9334d7bf3d899c33879e17d7891e9bb7df2"), looks := false }, kinds := [], alts := [], laidByText := true, laidKinds := [.data, .wider], laidTests := true, laidLooks := .later }
def FnExactConvertCardSaid : Prop := Claim7.holds Tryd.pinned (.plain (OpenSpec.ofChange fnExactConvertSpec)) fnExactConvertCard

/-- THE SECOND FORM's CARD OF 'laws.FnExactPack'. -/
def fnExactPackUptoCard : Claim7 := { stood := { row := fnExactPackUptoRow, standIns := [], harness := (true, "b52bd3bbb06138e84128d011176fe9334d7bf3d899c33879e17d7891e9bb7df2"), looks := false }, kinds := [], alts := [], laidByText := true, laidKinds := [.wider], laidTests := true, laidLooks := .later }
def FnExactPackUptoCardSaid : Prop := Claim7.holds Tryd.pinned (.plain (OpenSpec.upto fnExactPackSpec)) fnExactPackUptoCard

/-- THE SECOND FORM's CARD OF 'laws.FnExactAdd'. -/
def fnExactAddUptoCard : Claim7 := { stood := { row := fnExactAddUptoRow, standIns := [], harness := (true, "b52bd3bbb06138e84128d011176fe9334d7bf3d899c33879e17d7891e9bb7df2"), looks := false }, kinds := [], alts := [], laidByText := true, laidKinds := [.data, .wider], laidTests := true, laidLooks := .later }
def FnExactAddUptoCardSaid : Prop := Claim7.holds Tryd.pinned (.plain (OpenSpec.upto fnExactAddSpec)) fnExactAddUptoCard

/-- THE SECOND FORM's CARD OF 'laws.FnExactSub'. -/
def fnExactSubUptoCard : Claim7 := { stood := { row := fnExactSubUptoRow, standIns := [], harness := (true, "b52bd3bbb06138e84128d011176fe9334d7bf3d899c33879e17d7891e9bb7df2"), looks := false }, kinds := [], alts := [], laidByText := true, laidKinds := [.data, .wider], laidTests := true, laidLooks := .later }
def FnExactSubUptoCardSaid : Prop := Claim7.holds Tryd.pinned (.plain (OpenSpec.upto fnExactSubSpec)) fnExactSubUptoCard

/-- THE SECOND FORM's CARD OF 'laws.FnExactMul'. -/
def fnExactMulUptoCard : Claim7 := { stood := { row := fnExactMulUptoRow, standIns := [], harness := (true, "b52bd3bbb06138e84128d011176fe9334d7bf3d899c33879e17d7891e9bb7df2"), looks := false }, kinds := [], alts := [], laidByText := true, laidKinds := [.data, .wider], laidTests := true, laidLooks := .later }
def FnExactMulUptoCardSaid : Prop := Claim7.holds Tryd.pinned (.plain (OpenSpec.upto fnExactMulSpec)) fnExactMulUptoCard

/-- THE SECOND FORM's CARD OF 'laws.FnExactFma'. -/
def fnExactFmaUptoCard : Claim7 := { stood := { row := fnExactFmaUptoRow, standIns := [], harness := (true, "b52bd3bbb06138e84128d011176fe9334d7bf3d899c33879e17d7891e9bb7df2"), looks := false }, kinds := [], alts := [], laidByText := true, laidKinds := [.data, .wider], laidTests := true, laidLooks := .later }
def FnExactFmaUptoCardSaid : Prop := Claim7.holds Tryd.pinned (.plain (OpenSpec.upto fnExactFmaSpec)) fnExactFmaUptoCard

/-- THE SECOND FORM's CARD OF 'laws.FnExactConvert'. -/
def fnExactConvertUptoCard : Claim7 := { stood := { row := fnExactConvertUptoRow, standIns := [], harness := (true, "b52bd3bbb06138e84128d011176fe9334d7bf3d899c33879e17d7891e9bb7df2"), looks := false }, kinds := [], alts := [], laidByText := true, laidKinds := [.data, .wider], laidTests := true, laidLooks := .later }
def FnExactConvertUptoCardSaid : Prop := Claim7.holds Tryd.pinned (.plain (OpenSpec.upto fnExactConvertSpec)) fnExactConvertUptoCard
end Rows
end Go.Proofs.YtfodpnbhcdkmnaaDoor
