/- Fir: the program. -/
import Derived.Test.YtgamambcbaobnaaFG
import Derived.Stop.Asserts
import Derived.Lib.SliceRun
namespace Go.Proofs.Ytgamambcbaobnaa
open Go.RowKit

set_option maxHeartbeats 2000000 in
theorem clone_any {w : World} {B m : Nat} {sv : Value} {z : Nat → Int} (h : w.ownsRow B 3 1 sv m (ils z m)) (hm : m ≤ 1000000) :
    Calls Try.prog 30 #[sv] w fun e w' => ∃ u, e = .returned u ∧ w'.ownsRow w.heap.size 3 1 u m (ils z m) ∧ Below w.heap.size w w' := by
  have qT : ∀ (w : World) (a : Option Addr) (n c n' c' : Nat), (binOp .eql 24 (.slice a n c) (.slice none n' c')).run Try.prog w = .ok (.bool a.isNone) w := fun w a n c n' c' => Lib.run_eql_slice_nil w _ _ a n c n' c' Try.underlying24
  rcases h.2 with ⟨rfl, rfl⟩ | ⟨g, c, cur, rfl, hb, hg, _⟩
  · go_enter Try.func30, Try.ntmps30
    go_wp2
    go_ret
    exact ⟨_, rfl, ⟨rfl, .inl ⟨rfl, rfl⟩⟩, Below.refl _ _⟩
  · have HV : Hid ((w.alloc (.cells #[] 3)).ownsRow B 3 1 (.slice (some ⟨g, 0, none⟩) m c) m (ils z m)) := own_below h (below_one _ _)
    have HE : Hid ((w.alloc (.cells #[] 3)).ownsRow w.heap.size 3 1 (.slice (some ⟨w.heap.size, 0, none⟩) 0 0) 0 []) := own_empty w 3 1
    have BE : Hid (Below w.heap.size w (w.alloc (.cells #[] 3))) := below_one _ _
    clear h hb hg
    go_enter Try.func30, Try.ntmps30
    go_wp2_with (first | (at_builtin; refine wpList_appo rfl _ _ rfl w.heap.size B _ _ _ _ _ _ rfl rfl HE.out HV.out (by omega) BE.out.size ?_))
    intro u w1 ho hgr
    have O1 : Hid (w1.ownsRow w.heap.size 3 1 u m (ils z m)) := by show w1.ownsRow w.heap.size 3 1 u m (ils z m); simpa using ho
    have B1 : Hid (Below w.heap.size w w1) := grown_below BE.out (Nat.le_refl _) HE.out hgr
    clear ho hgr HE BE HV
    go_wp2
    go_ret
    exact ⟨_, rfl, O1.out, B1.out⟩

/-- Taps and a state of theirs. -/
abbrev GT (n m : Nat) (f st : Nat → Int) : Prop := ((1 ≤ n ∧ n ≤ 64) ∧ Wth 1000000 n f) ∧ Sig m st ∧ m + 1 = n

/-- Good for Fir. -/
abbrev GF (n m N : Nat) (f st xs : Nat → Int) : Prop := GT n m f st ∧ Sig N xs

theorem hasWhole (v : Value) (xT : TypeId) (w : World) : (Instr.typeAssert (.iface 41 v) xT 58 true).run Try.prog w = .ok (.tuple #[.iface 41 v, .bool true]) w := run_typeAssert_hasB Try.underlying58 (by kernel_rfl) v xT w

set_option maxHeartbeats 2000000 in
theorem runL {w : World} {A : Nat} {lv : Value} {Q : Ending → World → Prop} (lo : Option Addr) (N lc : Nat) (hl : lv = .slice lo N lc) (h : Calls Try.prog 55 #[.pointer (some ⟨A, 0, none⟩), lv] w fun e w' => ∃ u, e = .returned u ∧ Q e w') :
    Calls Try.prog 21 #[.iface 41 (.pointer (some ⟨A, 0, none⟩)), lv] w fun e w' => ∃ u, e = .returned u ∧ Q e w' := by
  subst hl
  have hA := hasWhole (.pointer (some ⟨A, 0, none⟩))
  have hm : (method 185 41 (.pointer (some ⟨A, 0, none⟩)) "Whole").run Try.prog w = .ok (55, .pointer (some ⟨A, 0, none⟩)) w := by kernel_rfl
  have HH : Hid (Calls Try.prog 55 #[.pointer (some ⟨A, 0, none⟩), .slice lo N lc] w fun e w' => ∃ u, e = .returned u ∧ Q e w') := h
  clear h
  go_enter Try.func21, Try.ntmps21
  go_wp2_with (first | (go_at_call 55; (with_reducible refine HH.out.mono ?_); rintro e w1 ⟨u, rfl, hq⟩))
  go_ret
  exact ⟨_, rfl, hq⟩
end Go.Proofs.Ytgamambcbaobnaa
