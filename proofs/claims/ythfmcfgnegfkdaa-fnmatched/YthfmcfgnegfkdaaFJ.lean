/- Fir: the program, good and bad. -/
import Derived.Test.YthfmcfgnegfkdaaFI
namespace Go.Proofs.Ythfmcfgnegfkdaa
open Go.RowKit

/-- A line made and run. -/
theorem fir_run {w w1 : World} {n m N tc lc : Nat} {ao lo : Option Addr} {u : Value} {f st xs : Nat → Int} (ht : Il w (.slice ao n tc) n f) (hl : Il w (.slice lo N lc) N xs) (ho : w1.ownsRow w.heap.size 3 1 u m (ils st m)) (hb : Below w.heap.size w w1)
    (h2 : n ≤ 64) (h3 : Wth 1000000 n f) (h4 : Wth 1000000000 m st) (h5 : m + 1 = n) (h6 : N ≤ 512) (h7 : Wth 1000000000 N xs) :
    Calls Try.prog 23 #[.iface 45 (.pointer (some ⟨w1.heap.size, 0, none⟩)), .slice lo N lc] (w1.alloc (.cells #[.slice ao n tc, u] 48)) fun e w' => ∃ v, e = .returned v ∧ ∃ v' pv', e = .returned v' ∧ w'.ownsRow w.heap.size 3 1 v' N (ils (fir n f st xs) N) ∧ w'.ownsRow w.heap.size 3 1 pv' m (ils (pst st xs N) m) ∧ Apart v' pv' ∧ Ln w' w1.heap.size (.slice ao n tc) pv' ∧ Below w.heap.size w w' := by
  have bA := below_one w1 (.cells #[.slice ao n tc, u] 48)
  have bW : Below w.heap.size w (w1.alloc (.cells #[.slice ao n tc, u] 48)) := bstep hb bA
  have sz : (w1.alloc (.cells #[.slice ao n tc, u] 48)).heap.size = w1.heap.size + 1 := by simp
  have hw1 := hb.size
  have GL : ∀ g, Blk u g → w.heap.size ≤ g ∧ g < w1.heap.size := fun g hg => World.ownsRow.lt ho g hg
  have hLn : Ln (w1.alloc (.cells #[.slice ao n tc, u] 48)) w1.heap.size (.slice ao n tc) u := ⟨by simp, by simp, by simp⟩
  refine runL lo N lc rfl ((whole_any hLn (ht.below bW) (own_below ho bA) (hl.below bW) h5 h2 h6 (fun e => by have := GL _ e; omega) (fun h0 b off n' c e hd => by have := ht.at h0 e; have := GL _ hd; omega) (fun h0 b off n' c e hd => by have := hl.at h0 e; have := GL _ hd; omega) h3 h4 h7).mono ?_)
  rintro e w' ⟨v, pv', rfl, q1, q2, q3, q4, q5⟩
  refine ⟨v, rfl, v, pv', rfl, own_base q1 bW.size, own_base q2 bW.size, q3, q4, Kd.below bW q5 bW.size (fun g hg => ?_)⟩
  rcases hg with hg | rfl
  · exact (GL g hg).1
  · exact hw1

set_option maxRecDepth 20000 in
set_option maxHeartbeats 4000000 in
theorem iFir_good {w : World} {B : Nat} {tv sv lv : Value} {n m N : Nat} {f st xs : Nat → Int} (ht : Il w tv n f) (hs : w.ownsRow B 3 1 sv m (ils st m)) (hl : Il w lv N xs) (h : GF n m N f st xs) :
    Calls Try.prog 10 #[tv, sv, lv] w fun e w' => P3 w w' e N m (fir n f st xs) (pst st xs N) true := by
  obtain ⟨⟨⟨⟨h1, h2⟩, h3⟩, h4, h5⟩, h6⟩ := h
  have i1 := has_any ht (il_of_own hs) (by omega) (by omega)
  rw [decide_eq_true (show GT n m f st from ⟨⟨⟨h1, h2⟩, h3⟩, h4, h5⟩)] at i1
  have i2 := iSig_any hl (Nat.le_trans h6.1 (by omega))
  rw [decide_eq_true h6] at i2
  have HT : Hid (Il w tv n f) := ht
  have HS : Hid (w.ownsRow B 3 1 sv m (ils st m)) := hs
  have HL : Hid (Il w lv N xs) := hl
  have H3 : Hid (Wth 1000000 n f) := h3
  have H4 : Hid (Wth 1000000000 m st) := h4.2
  have H6 : Hid (Wth 1000000000 N xs) := h6.2
  have hN := h6.1
  obtain ⟨so, sc, rfl, _, hc1⟩ := il_of_own hs
  obtain ⟨ao, tc, rfl, _, hc2⟩ := ht
  obtain ⟨lo, lc, rfl, _, hc3⟩ := hl
  clear hc1 hc2 hc3 hs h3 h4 h6
  go_enter Try.func10, Try.ntmps10
  go_wp2_with (first
    | (go_at_call 20; (with_reducible refine i1.mono ?_); rintro e w' ⟨rfl, hw⟩; obtain rfl := hw.symm)
    | (go_at_call 21; (with_reducible refine i2.mono ?_); rintro e w' ⟨rfl, hw⟩; obtain rfl := hw.symm)
    | (go_at_call 22; refine (clone_any HS.out (by omega)).mono ?_; rintro e w1 ⟨u, rfl, ho, hb⟩; obtain ⟨uo, uc, rfl, _, hcu⟩ := il_of_own ho; have O1 : Hid (w1.ownsRow w.heap.size 3 1 (.slice uo m uc) m (ils st m)) := ho; have B1 : Hid (Below w.heap.size w w1) := hb; clear ho hb hcu)
    | (go_at_call 23; refine (fir_run HT.out HL.out O1.out B1.out h2 H3.out H4.out h5 hN H6.out).mono ?_; rintro e w2 ⟨u0, rfl, v0, pv, he, q1, q2, q3, q4, q5⟩; injection he with he; subst he; have G : Hid (w2.ownsRow w.heap.size 3 1 u0 N (ils (fir n f st xs) N) ∧ w2.ownsRow w.heap.size 3 1 pv m (ils (pst st xs N) m) ∧ Apart u0 pv ∧ Below w.heap.size w w2) := ⟨q1, q2, q3, q5⟩; have f1 := q4.c1; obtain ⟨po, pc, rfl, _, hcp⟩ := il_of_own q2; obtain ⟨vo, vc, rfl, _, hcv⟩ := il_of_own q1; clear q1 q2 q3 q4 q5 hcp hcv))
  go_region
  go_wp2
  go_ret3
  exact ⟨_, _, rfl, own_below G.out.1 (drewN_below w2 1), own_below G.out.2.1 (drewN_below w2 1), G.out.2.2.1, G.out.2.2.2.drew⟩

set_option maxHeartbeats 4000000 in
theorem iFir_bad {w : World} {tv sv lv : Value} {n m N : Nat} {f st xs : Nat → Int} (ht : Il w tv n f) (hs : Il w sv m st) (hl : Il w lv N xs) (hn : n ≤ 1048576) (hm : m ≤ 1048576) (hN : N ≤ 1048576) (h : ¬ GF n m N f st xs) (ys zs : Nat → Int) :
    Calls Try.prog 10 #[tv, sv, lv] w fun e w' => P3 w w' e 0 0 ys zs false := by
  have i1 := has_any ht hs hn hm
  have i2 := iSig_any hl hN
  have T0 : Hid _ := two_none w ys zs
  obtain ⟨so, sc, rfl, _, hc1⟩ := hs
  obtain ⟨ao, tc, rfl, _, hc2⟩ := ht
  obtain ⟨lo, lc, rfl, _, hc3⟩ := hl
  clear hc1 hc2 hc3
  by_cases h1 : GT n m f st
  · rw [decide_eq_true h1] at i1
    rw [decide_eq_false (fun h2 => h ⟨h1, h2⟩)] at i2
    clear h h1
    go_enter Try.func10, Try.ntmps10
    go_wp2_with (first
      | (go_at_call 20; (with_reducible refine i1.mono ?_); rintro e w' ⟨rfl, hw⟩; obtain rfl := hw.symm)
      | (go_at_call 21; (with_reducible refine i2.mono ?_); rintro e w' ⟨rfl, hw⟩; obtain rfl := hw.symm))
    go_ret3
    exact ⟨_, _, rfl, T0.out.1, T0.out.2.1, T0.out.2.2.1, T0.out.2.2.2⟩
  · rw [decide_eq_false h1] at i1
    clear h h1 i2
    go_enter Try.func10, Try.ntmps10
    go_wp2_with (first
      | (go_at_call 20; (with_reducible refine i1.mono ?_); rintro e w' ⟨rfl, hw⟩; obtain rfl := hw.symm))
    go_ret3
    exact ⟨_, _, rfl, T0.out.1, T0.out.2.1, T0.out.2.2.1, T0.out.2.2.2⟩
end Go.Proofs.Ythfmcfgnegfkdaa
