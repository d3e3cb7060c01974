/- FirTurned: the program, the model, the law. -/
import Derived.Test.YtimjbpmppigaoaaTC
import Derived.Test.YtimjbpmppigaoaaFL
namespace Go.Proofs.Ytimjbpmppigaoaa
open Go.RowKit

theorem fir_congr {n m N : Nat} {f z st xs : Nat → Int} (hmn : m + 1 = n) (h : ∀ i, i < m → z i = st i) {k : Nat} (_ : k < N) : fir n f z xs k = fir n f st xs k := by
  unfold fir
  refine dts_congr fun i hi => ⟨rfl, ?_⟩
  unfold shf
  by_cases e : i = 0
  · rw [if_pos e, if_pos e]
  · rw [if_neg e, if_neg e, pst_at, pst_at]
    by_cases e2 : i - 1 < k
    · rw [if_pos e2, if_pos e2]
    · rw [if_neg e2, if_neg e2, h _ (by omega)]

theorem pst_all {N : Nat} {z xs : Nat → Int} (hz : ∀ i, -1000000000 ≤ z i ∧ z i ≤ 1000000000) (hx : Wth 1000000000 N xs) {k : Nat} (hk : k ≤ N) (i : Nat) : -1000000000 ≤ pst z xs k i ∧ pst z xs k i ≤ 1000000000 := by
  rw [pst_at]
  by_cases h : i < k
  · rw [if_pos h]; exact hx _ (by omega)
  · rw [if_neg h]; exact hz _

theorem bhd_all (st xs : Nat → Int) (N i : Nat) : bhd N st xs i = pst st xs N i := by
  have := bhd_pst st xs (Nat.zero_le N) i
  simpa [pst] using this

theorem apart_later {w w' : World} {B n m s s' : Nat} {e e' : TypeId} {u v : Value} {xs ys : List Value} (h1 : w.ownsRow B e s u n xs) (h2 : w'.ownsRow w.heap.size e' s' v m ys) : Apart u v := by
  cases e0 : u.ownBlock with
  | none => exact .inl e0
  | some q =>
    refine .inr (fun e => ?_)
    rw [e0] at e
    have a := (World.ownsRow.lt h1 q e0).2
    have b := (World.ownsRow.lt h2 q e.symm).1
    omega

/-- A turned line run. -/
theorem turned_run {w w1 : World} {n m N tc A P : Nat} {lv : Value} {ao : Option Addr} {f z st xs : Nat → Int} (ht : Il w (.slice ao n tc) n f) (hl : Il w lv N xs) (htu : Tu w1 w.heap.size A P n (.slice ao n tc) (ts f z n)) (hb : Below w.heap.size w w1) (hA : w.heap.size ≤ A) (hP : w.heap.size ≤ P)
    (h1 : 1 ≤ n) (h2 : n ≤ 64) (h3 : Wth 1000000 n f) (h5 : m + 1 = n) (h6 : N ≤ 512) (h7 : Wth 1000000000 N xs) (hz : ∀ i, -1000000000 ≤ z i ∧ z i ≤ 1000000000) (hzs : ∀ i, i < m → z i = st i) :
    Calls Try.prog 24 #[.iface 47 (.pointer (some ⟨A, 0, none⟩)), lv] w1 fun e w' => ∃ v, e = .returned v ∧ w'.ownsRow w.heap.size 3 1 v N (ils (fir n f st xs) N) ∧ Below w.heap.size w w' := by
  obtain ⟨ao', tc', he, htc, hct⟩ := ht
  injection he with e1 _ e3
  subst e1 e3
  obtain ⟨bt, ot, rfl, hbt, hcell⟩ := hct (by omega)
  have lA : A < w1.heap.size := World.block_lt_of_cell? w1 _ htu.c0
  have lP := (own_lt htu.own).2
  have sz := hb.size
  refine (runT (hl.below hb) (by omega) ⟨A, 0, none⟩ (fun g => g = P) (fun g => g = A ∨ g = P ∨ g = bt) (fun k W => Tu W w.heap.size A P n (.slice (some ⟨bt, ot, none⟩) n tc) (ts f (pst z xs k) n) ∧ ∀ k, k < n → W.cell? ⟨bt, ot + k, none⟩ = some (.int .i64 (f k))) (fir n f z xs) ?_ ?_ ?_ ?_ ?_ ?_).mono ?_
  · rintro k W W' ⟨q1, q2⟩ hg
    have eA := hg A (.inl rfl)
    exact ⟨⟨(World.cell?_of_block (w := W) eA).trans q1.c0, (World.cell?_of_block (w := W) eA).trans q1.c1, own_block q1.own (hg P (.inr (.inl rfl))), q1.ne⟩, fun j hj => (World.cell?_of_block (w := W) (hg bt (.inr (.inr rfl)))).trans (q2 j hj)⟩
  · rintro g (rfl | rfl | rfl)
    · exact lA
    · exact lP
    · omega
  · rintro g rfl
    exact lP
  · intro h0 b off n' c e hd
    have := hl.at h0 e
    omega
  · rintro k W hk ⟨q1, q2⟩
    refine (tStep2 q1 htc q2 (by omega) h1 h2 h3 (h7 k hk) (pst_all hz h7 (by omega))).mono ?_
    rintro e W' ⟨rfl, q3, q4⟩
    exact ⟨rfl, ⟨q3, fun j hj => (World.cell?_of_block (w := W) (q4.block bt (World.block_lt_of_cell? W _ (q2 j hj)) (by omega))).trans (q2 j hj)⟩, q4⟩
  · exact ⟨htu, fun j hj => (hb.cell (p := ⟨bt, ot + j, none⟩) hbt).trans (hcell j hj)⟩
  · rintro e w' ⟨v, rfl, q1, _, q2⟩
    refine ⟨v, rfl, ?_, Kd.below hb q2 hb.size (fun g hg => by omega)⟩
    rw [ils_congr (fun i hi => fir_congr h5 hzs hi)] at q1
    exact own_base q1 sz

set_option maxRecDepth 20000 in
set_option maxHeartbeats 4000000 in
theorem iTurn_good {w : World} {B : Nat} {tv sv lv : Value} {n m N : Nat} {f st xs : Nat → Int} (ht : Il w tv n f) (hs : w.ownsRow B 3 1 sv m (ils st m)) (hl : Il w lv N xs) (h : GF n m N f st xs) :
    Calls Try.prog 9 #[tv, sv, lv] w fun e w' => P3 w w' e N m (fir n f st xs) (pst st xs N) true := by
  obtain ⟨⟨⟨⟨h1, h2⟩, h3⟩, h4, h5⟩, h6⟩ := h
  have i1 := has_any ht (il_of_own hs) (by omega) (by omega)
  rw [decide_eq_true (show GT n m f st from ⟨⟨⟨h1, h2⟩, h3⟩, h4, h5⟩)] at i1
  have i2 := iSig_any hl (Nat.le_trans h6.1 (by omega))
  rw [decide_eq_true h6] at i2
  have HT : Hid (Il w tv n f) := ht
  have HS : Hid (w.ownsRow B 3 1 sv m (ils st m)) := hs
  have HL : Hid (Il w lv N xs) := hl
  have H3 : Hid (Wth 1000000 n f) := h3
  have H6 : Hid (Wth 1000000000 N xs) := h6.2
  have hN := h6.1
  obtain ⟨so, sc, rfl, _, hc1⟩ := il_of_own hs
  obtain ⟨ao, tc, rfl, _, hc2⟩ := ht
  obtain ⟨lo, lc, rfl, _, hc3⟩ := hl
  have i3 := newT HT.out HS.out h1 h2 h3 h4.2 h5
  have HZ : Hid (∀ i, i < m → zof (fsO m st h4.2) i = st i) := fun i hi => zof_fs h4.2 hi
  have HB : Hid (∀ i, -1000000000 ≤ zof (fsO m st h4.2) i ∧ zof (fsO m st h4.2) i ≤ 1000000000) := zof_wth _
  generalize zof (fsO m st h4.2) = z at i3 HZ HB
  clear hc1 hc2 hc3 hs h3 h4 h6
  go_enter Try.func9, Try.ntmps9
  go_wp2_with (first
    | (go_at_call 21; (with_reducible refine i1.mono ?_); rintro e w' ⟨rfl, hw⟩; obtain rfl := hw.symm)
    | (go_at_call 22; (with_reducible refine i2.mono ?_); rintro e w' ⟨rfl, hw⟩; obtain rfl := hw.symm)
    | (go_at_call 27; refine i3.mono ?_; rintro e w1 ⟨A, P, rfl, hA, hP, htu, hb⟩; have TU : Hid (Tu w1 w.heap.size A P n (.slice ao n tc) (ts f z n)) := htu; have B1 : Hid (Below w.heap.size w w1) := hb; clear htu hb)
    | (go_at_call 24; refine (turned_run HT.out HL.out TU.out B1.out hA hP h1 h2 H3.out h5 hN H6.out HB.out HZ.out).mono ?_; rintro e w2 ⟨u0, rfl, q1, q2⟩; have Q1 : Hid (w2.ownsRow w.heap.size 3 1 u0 N (ils (fir n f st xs) N)) := q1; have B2 : Hid (Below w.heap.size w w2) := q2; obtain ⟨vo, vc, rfl, _, hcv⟩ := il_of_own q1; clear q1 q2 hcv)
    | (go_at_call 28; refine (behind_any ((il_of_own HS.out).below B2.out) (HL.out.below B2.out) (by omega) (by omega)).mono ?_; rintro e w3 ⟨u1, rfl, q3, q4⟩; rw [ils_congr (fun i _ => bhd_all st xs N i)] at q3; have Q3 : Hid (w3.ownsRow w2.heap.size 3 1 u1 m (ils (pst st xs N) m)) := q3; have B3 : Hid (Below w2.heap.size w2 w3) := q4; obtain ⟨po, pc, rfl, _, hcp⟩ := il_of_own q3; clear q3 q4 hcp))
  have AP : Hid (Apart (.slice vo N vc) (.slice po m pc)) := apart_later Q1.out Q3.out
  go_ret3
  exact ⟨_, _, rfl, own_below Q1.out B3.out, own_base Q3.out B2.out.size, AP.out, bstep B2.out B3.out⟩

set_option maxHeartbeats 4000000 in
theorem iTurn_bad {w : World} {tv sv lv : Value} {n m N : Nat} {f st xs : Nat → Int} (ht : Il w tv n f) (hs : Il w sv m st) (hl : Il w lv N xs) (hn : n ≤ 1048576) (hm : m ≤ 1048576) (hN : N ≤ 1048576) (h : ¬ GF n m N f st xs) (ys zs : Nat → Int) :
    Calls Try.prog 9 #[tv, sv, lv] w fun e w' => P3 w w' e 0 0 ys zs false := by
  have i1 := has_any ht hs hn hm
  have i2 := iSig_any hl hN
  have T0 : Hid _ := two_none w ys zs
  obtain ⟨so, sc, rfl, _, hc1⟩ := hs
  obtain ⟨ao, tc, rfl, _, hc2⟩ := ht
  obtain ⟨lo, lc, rfl, _, hc3⟩ := hl
  clear hc1 hc2 hc3
  by_cases h1 : GT n m f st
  · rw [decide_eq_true h1] at i1
    rw [decide_eq_false (fun h2 => h ⟨h1, h2⟩)] at i2
    clear h h1
    go_enter Try.func9, Try.ntmps9
    go_wp2_with (first
      | (go_at_call 21; (with_reducible refine i1.mono ?_); rintro e w' ⟨rfl, hw⟩; obtain rfl := hw.symm)
      | (go_at_call 22; (with_reducible refine i2.mono ?_); rintro e w' ⟨rfl, hw⟩; obtain rfl := hw.symm))
    go_ret3
    exact ⟨_, _, rfl, T0.out.1, T0.out.2.1, T0.out.2.2.1, T0.out.2.2.2⟩
  · rw [decide_eq_false h1] at i1
    clear h h1 i2
    go_enter Try.func9, Try.ntmps9
    go_wp2_with (first
      | (go_at_call 21; (with_reducible refine i1.mono ?_); rintro e w' ⟨rfl, hw⟩; obtain rfl := hw.symm))
    go_ret3
    exact ⟨_, _, rfl, T0.out.1, T0.out.2.1, T0.out.2.2.1, T0.out.2.2.2⟩

end Go.Proofs.Ytimjbpmppigaoaa
