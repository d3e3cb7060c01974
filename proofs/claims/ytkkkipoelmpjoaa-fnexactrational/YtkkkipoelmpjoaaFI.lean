/- Fir: the program. -/
import Derived.Test.YtkkkipoelmpjoaaFG
import Derived.Stop.Asserts
import Derived.Lib.SliceRun
namespace Go.Proofs.Ytkkkipoelmpjoaa
open Go.RowKit

/-- Taps and a state of theirs. -/
abbrev GT (n m : Nat) (f st : Nat → Int) : Prop := ((1 ≤ n ∧ n ≤ 64) ∧ Wth 1000000 n f) ∧ Sig m st ∧ m + 1 = n

/-- Good for Fir. -/
abbrev GF (n m N : Nat) (f st xs : Nat → Int) : Prop := GT n m f st ∧ Sig N xs

theorem hasWhole (v : Value) (xT : TypeId) (w : World) : (Instr.typeAssert (.iface 33 v) xT 43 true).run Try.prog w = .ok (.tuple #[.iface 33 v, .bool true]) w := run_typeAssert_hasB Try.underlying43 (by kernel_rfl) v xT w

set_option maxHeartbeats 2000000 in
theorem runL {w : World} {A : Nat} {lv : Value} {Q : Ending → World → Prop} (lo : Option Addr) (N lc : Nat) (hl : lv = .slice lo N lc) (h : Calls Try.prog 42 #[.pointer (some ⟨A, 0, none⟩), lv] w fun e w' => ∃ u, e = .returned u ∧ Q e w') :
    Calls Try.prog 19 #[.iface 33 (.pointer (some ⟨A, 0, none⟩)), lv] w fun e w' => ∃ u, e = .returned u ∧ Q e w' := by
  subst hl
  have hA := hasWhole (.pointer (some ⟨A, 0, none⟩))
  have hm : (method 167 33 (.pointer (some ⟨A, 0, none⟩)) "Whole").run Try.prog w = .ok (42, .pointer (some ⟨A, 0, none⟩)) w := by kernel_rfl
  have HH : Hid (Calls Try.prog 42 #[.pointer (some ⟨A, 0, none⟩), .slice lo N lc] w fun e w' => ∃ u, e = .returned u ∧ Q e w') := h
  clear h
  go_enter Try.func19, Try.ntmps19
  go_wp2_with (first | (go_at_call 42; (with_reducible refine HH.out.mono ?_); rintro e w1 ⟨u, rfl, hq⟩))
  go_ret
  exact ⟨_, rfl, hq⟩
end Go.Proofs.Ytkkkipoelmpjoaa
