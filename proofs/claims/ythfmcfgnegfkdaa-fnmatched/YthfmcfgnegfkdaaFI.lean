/- Fir: the program. -/
import Derived.Test.YthfmcfgnegfkdaaFG
import Derived.Stop.Asserts
import Derived.Lib.SliceRun
namespace Go.Proofs.Ythfmcfgnegfkdaa
open Go.RowKit

set_option maxHeartbeats 2000000 in
theorem clone_any {w : World} {B m : Nat} {sv : Value} {z : Nat → Int} (h : w.ownsRow B 3 1 sv m (ils z m)) (hm : m ≤ 1000000) :
    Calls Try.prog 22 #[sv] w fun e w' => ∃ u, e = .returned u ∧ w'.ownsRow w.heap.size 3 1 u m (ils z m) ∧ Below w.heap.size w w' := by
  have qT : ∀ (w : World) (a : Option Addr) (n c n' c' : Nat), (binOp .eql 24 (.slice a n c) (.slice none n' c')).run Try.prog w = .ok (.bool a.isNone) w := fun w a n c n' c' => Lib.run_eql_slice_nil w _ _ a n c n' c' Try.underlying24
  rcases h.2 with ⟨rfl, rfl⟩ | ⟨g, c, cur, rfl, hb, hg, _⟩
  · go_enter Try.func22, Try.ntmps22
    go_wp2
    go_ret
    exact ⟨_, rfl, ⟨rfl, .inl ⟨rfl, rfl⟩⟩, Below.refl _ _⟩
  · have HV : Hid ((w.alloc (.cells #[] 3)).ownsRow B 3 1 (.slice (some ⟨g, 0, none⟩) m c) m (ils z m)) := own_below h (below_one _ _)
    have HE : Hid ((w.alloc (.cells #[] 3)).ownsRow w.heap.size 3 1 (.slice (some ⟨w.heap.size, 0, none⟩) 0 0) 0 []) := own_empty w 3 1
    have BE : Hid (Below w.heap.size w (w.alloc (.cells #[] 3))) := below_one _ _
    clear h hb hg
    go_enter Try.func22, Try.ntmps22
    go_wp2_with (first | (at_builtin; refine wpList_appo rfl _ _ rfl w.heap.size B _ _ _ _ _ _ rfl rfl HE.out HV.out (by omega) BE.out.size ?_))
    intro u w1 ho hgr
    have O1 : Hid (w1.ownsRow w.heap.size 3 1 u m (ils z m)) := by show w1.ownsRow w.heap.size 3 1 u m (ils z m); simpa using ho
    have B1 : Hid (Below w.heap.size w w1) := grown_below BE.out (Nat.le_refl _) HE.out hgr
    clear ho hgr HE BE HV
    go_wp2
    go_ret
    exact ⟨_, rfl, O1.out, B1.out⟩

/-- Taps and a state of theirs. -/
abbrev GT (n m : Nat) (f st : Nat → Int) : Prop := ((1 ≤ n ∧ n ≤ 64) ∧ Wth 1000000 n f) ∧ Sig m st ∧ m + 1 = n

/-- Good for Fir. -/
abbrev GF (n m N : Nat) (f st xs : Nat → Int) : Prop := GT n m f st ∧ Sig N xs

theorem hasWhole (v : Value) (xT : TypeId) (w : World) : (Instr.typeAssert (.iface 45 v) xT 60 true).run Try.prog w = .ok (.tuple #[.iface 45 v, .bool true]) w := run_typeAssert_hasB Try.underlying60 (by kernel_rfl) v xT w

set_option maxHeartbeats 2000000 in
theorem runL {w : World} {A : Nat} {lv : Value} {Q : Ending → World → Prop} (lo : Option Addr) (N lc : Nat) (hl : lv = .slice lo N lc) (h : Calls Try.prog 49 #[.pointer (some ⟨A, 0, none⟩), lv] w fun e w' => ∃ u, e = .returned u ∧ Q e w') :
    Calls Try.prog 23 #[.iface 45 (.pointer (some ⟨A, 0, none⟩)), lv] w fun e w' => ∃ u, e = .returned u ∧ Q e w' := by
  subst hl
  have hA := hasWhole (.pointer (some ⟨A, 0, none⟩))
  have hm : (method 187 45 (.pointer (some ⟨A, 0, none⟩)) "Whole").run Try.prog w = .ok (49, .pointer (some ⟨A, 0, none⟩)) w := by kernel_rfl
  have HH : Hid (Calls Try.prog 49 #[.pointer (some ⟨A, 0, none⟩), .slice lo N lc] w fun e w' => ∃ u, e = .returned u ∧ Q e w') := h
  clear h
  go_enter Try.func23, Try.ntmps23
  go_wp2_with (first | (go_at_call 49; (with_reducible refine HH.out.mono ?_); rintro e w1 ⟨u, rfl, hq⟩))
  go_ret
  exact ⟨_, rfl, hq⟩

/-- Taps. -/
abbrev Tp (n : Nat) (f : Nat → Int) : Prop := (1 ≤ n ∧ n ≤ 64) ∧ Wth 1000000 n f

theorem iTaps_any {w : World} {v : Value} {n : Nat} {f : Nat → Int} (hv : Il w v n f) (hn : n ≤ 1048576) : Calls Try.prog 30 #[v] w fun e w' => e = .returned (.bool (decide (Tp n f))) ∧ w' = w := by
  have i2 := iWth_any hv hn (M := 1000000) (by omega)
  obtain ⟨ao, cap, rfl, _, hc⟩ := hv
  clear hc
  obtain ⟨d, hd⟩ : ∃ d, d = decide (Wth 1000000 n f) := ⟨_, rfl⟩
  rw [← hd] at i2
  have HD : Hid (d = decide (Wth 1000000 n f)) := hd
  clear hd
  by_cases h1 : 1 ≤ n
  · by_cases h2 : n ≤ 64
    · go_enter Try.func30, Try.ntmps30
      go_wp2_with (first
        | (go_at_call 32; (with_reducible refine (i2).mono ?_); rintro e w' ⟨rfl, hw⟩; obtain rfl := hw.symm))
      go_ret
      exact ⟨congrArg (fun z => Ending.returned (.bool z)) (by rw [HD.out]; exact decide_eq_decide.2 ⟨fun h => ⟨⟨h1, h2⟩, h⟩, fun h => h.2⟩), rfl⟩
    · clear i2
      go_enter Try.func30, Try.ntmps30
      go_wp2
      go_ret
      exact ⟨rfl, rfl⟩
  · clear i2
    go_enter Try.func30, Try.ntmps30
    go_wp2
    go_ret
    exact ⟨rfl, rfl⟩

theorem has_any {w : World} {tv sv : Value} {n m : Nat} {f st : Nat → Int} (ht : Il w tv n f) (hs : Il w sv m st) (hn : n ≤ 1048576) (hm : m ≤ 1048576) : Calls Try.prog 20 #[tv, sv] w fun e w' => e = .returned (.bool (decide (GT n m f st))) ∧ w' = w := by
  have i1 := iTaps_any ht hn
  have i2 := iSig_any hs hm
  obtain ⟨ao, tc, rfl, _, hc1⟩ := ht
  obtain ⟨so, sc, rfl, _, hc2⟩ := hs
  clear hc1 hc2
  obtain ⟨d, hd⟩ : ∃ d, d = decide (GT n m f st) := ⟨_, rfl⟩
  rw [← hd]
  have HD : Hid (d = decide (GT n m f st)) := hd
  clear hd
  by_cases h1 : Tp n f
  · rw [decide_eq_true h1] at i1
    have hn1 := h1.1
    by_cases h4 : Sig m st
    · rw [decide_eq_true h4] at i2
      by_cases h5 : m + 1 = n
      · have e5 : (m : Int) = (n : Int) - 1 := by omega
        have e6 : ((m : Int) == (n : Int) - 1) = true := beq_iff_eq.2 e5
        have HH : Hid (GT n m f st) := ⟨h1, h4, h5⟩
        have e7 : (n : Int) - 1 = (m : Int) := by omega
        clear h1 h4 e5
        go_enter Try.func20, Try.ntmps20
        go_wp2_with (first
          | (go_at_call 30; (with_reducible refine i1.mono ?_); rintro e w' ⟨rfl, hw⟩; obtain rfl := hw.symm)
          | (go_at_call 21; (with_reducible refine i2.mono ?_); rintro e w' ⟨rfl, hw⟩; obtain rfl := hw.symm))
        go_ret
        exact ⟨congrArg (fun z => Ending.returned (.bool z)) (by rw [HD.out]; exact (decide_eq_true HH.out).symm), rfl⟩
      · have e6 : ((m : Int) == (n : Int) - 1) = false := (by rw [Bool.eq_false_iff]; intro h; have := beq_iff_eq.1 h; omega)
        have HH : Hid (¬ GT n m f st) := fun h => h5 h.2.2
        clear h1 h4
        go_enter Try.func20, Try.ntmps20
        go_wp2_with (first
          | (go_at_call 30; (with_reducible refine i1.mono ?_); rintro e w' ⟨rfl, hw⟩; obtain rfl := hw.symm)
          | (go_at_call 21; (with_reducible refine i2.mono ?_); rintro e w' ⟨rfl, hw⟩; obtain rfl := hw.symm))
        go_ret
        exact ⟨congrArg (fun z => Ending.returned (.bool z)) (by rw [HD.out]; exact (decide_eq_false HH.out).symm), rfl⟩
    · rw [decide_eq_false h4] at i2
      have HH : Hid (¬ GT n m f st) := fun h => h4 h.2.1
      clear h1 h4
      go_enter Try.func20, Try.ntmps20
      go_wp2_with (first
        | (go_at_call 30; (with_reducible refine i1.mono ?_); rintro e w' ⟨rfl, hw⟩; obtain rfl := hw.symm)
        | (go_at_call 21; (with_reducible refine i2.mono ?_); rintro e w' ⟨rfl, hw⟩; obtain rfl := hw.symm))
      go_ret
      exact ⟨congrArg (fun z => Ending.returned (.bool z)) (by rw [HD.out]; exact (decide_eq_false HH.out).symm), rfl⟩
  · rw [decide_eq_false h1] at i1
    have HH : Hid (¬ GT n m f st) := fun h => h1 h.1
    clear h1 i2
    go_enter Try.func20, Try.ntmps20
    go_wp2_with (first
      | (go_at_call 30; (with_reducible refine i1.mono ?_); rintro e w' ⟨rfl, hw⟩; obtain rfl := hw.symm))
    go_ret
    exact ⟨congrArg (fun z => Ending.returned (.bool z)) (by rw [HD.out]; exact (decide_eq_false HH.out).symm), rfl⟩

end Go.Proofs.Ythfmcfgnegfkdaa
