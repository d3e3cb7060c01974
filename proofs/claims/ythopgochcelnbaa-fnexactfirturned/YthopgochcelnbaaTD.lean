/- FirTurned: the program, the model, the law. -/
import Derived.Test.YthopgochcelnbaaTC
import Derived.Test.YthopgochcelnbaaFL
namespace Go.Proofs.Ythopgochcelnbaa
open Go.RowKit

theorem fir_congr {n m N : Nat} {f z st xs : Nat → Int} (hmn : m + 1 = n) (h : ∀ i, i < m → z i = st i) {k : Nat} (_ : k < N) : fir n f z xs k = fir n f st xs k := by
  unfold fir
  refine dts_congr fun i hi => ⟨rfl, ?_⟩
  unfold shf
  by_cases e : i = 0
  · rw [if_pos e, if_pos e]
  · rw [if_neg e, if_neg e, pst_at, pst_at]
    by_cases e2 : i - 1 < k
    · rw [if_pos e2, if_pos e2]
    · rw [if_neg e2, if_neg e2, h _ (by omega)]

theorem pst_all {N : Nat} {z xs : Nat → Int} (hz : ∀ i, -1000000000 ≤ z i ∧ z i ≤ 1000000000) (hx : Wth 1000000000 N xs) {k : Nat} (hk : k ≤ N) (i : Nat) : -1000000000 ≤ pst z xs k i ∧ pst z xs k i ≤ 1000000000 := by
  rw [pst_at]
  by_cases h : i < k
  · rw [if_pos h]; exact hx _ (by omega)
  · rw [if_neg h]; exact hz _

theorem bhd_all (st xs : Nat → Int) (N i : Nat) : bhd N st xs i = pst st xs N i := by
  have := bhd_pst st xs (Nat.zero_le N) i
  simpa [pst] using this

theorem apart_later {w w' : World} {B n m s s' : Nat} {e e' : TypeId} {u v : Value} {xs ys : List Value} (h1 : w.ownsRow B e s u n xs) (h2 : w'.ownsRow w.heap.size e' s' v m ys) : Apart u v := by
  cases e0 : u.ownBlock with
  | none => exact .inl e0
  | some q =>
    refine .inr (fun e => ?_)
    rw [e0] at e
    have a := (World.ownsRow.lt h1 q e0).2
    have b := (World.ownsRow.lt h2 q e.symm).1
    omega

/-- A turned line run. -/
theorem turned_run {w w1 : World} {n m N tc A P : Nat} {lv : Value} {ao : Option Addr} {f z st xs : Nat → Int} (ht : Il w (.slice ao n tc) n f) (hl : Il w lv N xs) (htu : Tu w1 w.heap.size A P n (.slice ao n tc) (ts f z n)) (hb : Below w.heap.size w w1) (hA : w.heap.size ≤ A) (hP : w.heap.size ≤ P)
    (h1 : 1 ≤ n) (h2 : n ≤ 64) (h3 : Wth 1000000 n f) (h5 : m + 1 = n) (h6 : N ≤ 512) (h7 : Wth 1000000000 N xs) (hz : ∀ i, -1000000000 ≤ z i ∧ z i ≤ 1000000000) (hzs : ∀ i, i < m → z i = st i) :
    Calls Try.prog 18 #[.iface 34 (.pointer (some ⟨A, 0, none⟩)), lv] w1 fun e w' => ∃ v, e = .returned v ∧ w'.ownsRow w.heap.size 3 1 v N (ils (fir n f st xs) N) ∧ Below w.heap.size w w' := by
  obtain ⟨ao', tc', he, htc, hct⟩ := ht
  injection he with e1 _ e3
  subst e1 e3
  obtain ⟨bt, ot, rfl, hbt, hcell⟩ := hct (by omega)
  have lA : A < w1.heap.size := World.block_lt_of_cell? w1 _ htu.c0
  have lP := (own_lt htu.own).2
  have sz := hb.size
  refine (runT (hl.below hb) (by omega) ⟨A, 0, none⟩ (fun g => g = P) (fun g => g = A ∨ g = P ∨ g = bt) (fun k W => Tu W w.heap.size A P n (.slice (some ⟨bt, ot, none⟩) n tc) (ts f (pst z xs k) n) ∧ ∀ k, k < n → W.cell? ⟨bt, ot + k, none⟩ = some (.int .i64 (f k))) (fir n f z xs) ?_ ?_ ?_ ?_ ?_ ?_).mono ?_
  · rintro k W W' ⟨q1, q2⟩ hg
    have eA := hg A (.inl rfl)
    exact ⟨⟨(World.cell?_of_block (w := W) eA).trans q1.c0, (World.cell?_of_block (w := W) eA).trans q1.c1, own_block q1.own (hg P (.inr (.inl rfl))), q1.ne⟩, fun j hj => (World.cell?_of_block (w := W) (hg bt (.inr (.inr rfl)))).trans (q2 j hj)⟩
  · rintro g (rfl | rfl | rfl)
    · exact lA
    · exact lP
    · omega
  · rintro g rfl
    exact lP
  · intro h0 b off n' c e hd
    have := hl.at h0 e
    omega
  · rintro k W hk ⟨q1, q2⟩
    refine (tStep2 q1 htc q2 (by omega) h1 h2 h3 (h7 k hk) (pst_all hz h7 (by omega))).mono ?_
    rintro e W' ⟨rfl, q3, q4⟩
    exact ⟨rfl, ⟨q3, fun j hj => (World.cell?_of_block (w := W) (q4.block bt (World.block_lt_of_cell? W _ (q2 j hj)) (by omega))).trans (q2 j hj)⟩, q4⟩
  · exact ⟨htu, fun j hj => (hb.cell (p := ⟨bt, ot + j, none⟩) hbt).trans (hcell j hj)⟩
  · rintro e w' ⟨v, rfl, q1, _, q2⟩
    refine ⟨v, rfl, ?_, Kd.below hb q2 hb.size (fun g hg => by omega)⟩
    rw [ils_congr (fun i hi => fir_congr h5 hzs hi)] at q1
    exact own_base q1 sz

set_option maxRecDepth 20000 in
set_option maxHeartbeats 4000000 in
theorem iTurn_good {w : World} {B : Nat} {tv sv lv : Value} {n m N : Nat} {f st xs : Nat → Int} (ht : Il w tv n f) (hs : w.ownsRow B 3 1 sv m (ils st m)) (hl : Il w lv N xs) (h : GF n m N f st xs) :
    Calls Try.prog 12 #[tv, sv, lv] w fun e w' => P3 w w' e N m (fir n f st xs) (pst st xs N) true := by
  obtain ⟨⟨⟨⟨h1, h2⟩, h3⟩, h4, h5⟩, h6⟩ := h
  have i1 := has_any ht (il_of_own hs) (by omega) (by omega)
  rw [decide_eq_true (show GT n m f st from ⟨⟨⟨h1, h2⟩, h3⟩, h4, h5⟩)] at i1
  have i2 := iSig_any hl (Nat.le_trans h6.1 (by omega))
  rw [decide_eq_true h6] at i2
  have HT : Hid (Il w tv n f) := ht
  have HS : Hid (w.ownsRow B 3 1 sv m (ils st m)) := hs
  have HL : Hid (Il w lv N xs) := hl
  have H3 : Hid (Wth 1000000 n f) := h3
  have H6 : Hid (Wth 1000000000 N xs) := h6.2
  have hN := h6.1
  obtain ⟨so, sc, rfl, _, hc1⟩ := il_of_own hs
  obtain ⟨ao, tc, rfl, _, hc2⟩ := ht
  obtain ⟨lo, lc, rfl, _, hc3⟩ := hl
  have i3 := newT HT.out HS.out h1 h2 h3 h4.2 h5
  have HZ : Hid (∀ i, i < m → zof (fsO m st h4.2) i = st i) := fun i hi => zof_fs h4.2 hi
  have HB : Hid (∀ i, -1000000000 ≤ zof (fsO m st h4.2) i ∧ zof (fsO m st h4.2) i ≤ 1000000000) := zof_wth _
  generalize zof (fsO m st h4.2) = z at i3 HZ HB
  clear hc1 hc2 hc3 hs h3 h4 h6
  go_enter Try.func12, Try.ntmps12
  go_wp2_with (first
    | (go_at_call 15; (with_reducible refine i1.mono ?_); rintro e w' ⟨rfl, hw⟩; obtain rfl := hw.symm)
    | (go_at_call 16; (with_reducible refine i2.mono ?_); rintro e w' ⟨rfl, hw⟩; obtain rfl := hw.symm)
    | (go_at_call 19; refine i3.mono ?_; rintro e w1 ⟨A, P, rfl, hA, hP, htu, hb⟩; have TU : Hid (Tu w1 w.heap.size A P n (.slice ao n tc) (ts f z n)) := htu; have B1 : Hid (Below w.heap.size w w1) := hb; clear htu hb)
    | (go_at_call 18; refine (turned_run HT.out HL.out TU.out B1.out hA hP h1 h2 H3.out h5 hN H6.out HB.out HZ.out).mono ?_; rintro e w2 ⟨u0, rfl, q1, q2⟩; have Q1 : Hid (w2.ownsRow w.heap.size 3 1 u0 N (ils (fir n f st xs) N)) := q1; have B2 : Hid (Below w.heap.size w w2) := q2; obtain ⟨vo, vc, rfl, _, hcv⟩ := il_of_own q1; clear q1 q2 hcv)
    | (go_at_call 20; refine (behind_any ((il_of_own HS.out).below B2.out) (HL.out.below B2.out) (by omega) (by omega)).mono ?_; rintro e w3 ⟨u1, rfl, q3, q4⟩; rw [ils_congr (fun i _ => bhd_all st xs N i)] at q3; have Q3 : Hid (w3.ownsRow w2.heap.size 3 1 u1 m (ils (pst st xs N) m)) := q3; have B3 : Hid (Below w2.heap.size w2 w3) := q4; obtain ⟨po, pc, rfl, _, hcp⟩ := il_of_own q3; clear q3 q4 hcp))
  have AP : Hid (Apart (.slice vo N vc) (.slice po m pc)) := apart_later Q1.out Q3.out
  go_ret3
  exact ⟨_, _, rfl, own_below Q1.out B3.out, own_base Q3.out B2.out.size, AP.out, bstep B2.out B3.out⟩

set_option maxHeartbeats 4000000 in
theorem iTurn_bad {w : World} {tv sv lv : Value} {n m N : Nat} {f st xs : Nat → Int} (ht : Il w tv n f) (hs : Il w sv m st) (hl : Il w lv N xs) (hn : n ≤ 1048576) (hm : m ≤ 1048576) (hN : N ≤ 1048576) (h : ¬ GF n m N f st xs) (ys zs : Nat → Int) :
    Calls Try.prog 12 #[tv, sv, lv] w fun e w' => P3 w w' e 0 0 ys zs false := by
  have i1 := has_any ht hs hn hm
  have i2 := iSig_any hl hN
  have T0 : Hid _ := two_none w ys zs
  obtain ⟨so, sc, rfl, _, hc1⟩ := hs
  obtain ⟨ao, tc, rfl, _, hc2⟩ := ht
  obtain ⟨lo, lc, rfl, _, hc3⟩ := hl
  clear hc1 hc2 hc3
  by_cases h1 : GT n m f st
  · rw [decide_eq_true h1] at i1
    rw [decide_eq_false (fun h2 => h ⟨h1, h2⟩)] at i2
    clear h h1
    go_enter Try.func12, Try.ntmps12
    go_wp2_with (first
      | (go_at_call 15; (with_reducible refine i1.mono ?_); rintro e w' ⟨rfl, hw⟩; obtain rfl := hw.symm)
      | (go_at_call 16; (with_reducible refine i2.mono ?_); rintro e w' ⟨rfl, hw⟩; obtain rfl := hw.symm))
    go_ret3
    exact ⟨_, _, rfl, T0.out.1, T0.out.2.1, T0.out.2.2.1, T0.out.2.2.2⟩
  · rw [decide_eq_false h1] at i1
    clear h h1 i2
    go_enter Try.func12, Try.ntmps12
    go_wp2_with (first
      | (go_at_call 15; (with_reducible refine i1.mono ?_); rintro e w' ⟨rfl, hw⟩; obtain rfl := hw.symm))
    go_ret3
    exact ⟨_, _, rfl, T0.out.1, T0.out.2.1, T0.out.2.2.1, T0.out.2.2.2⟩

theorem sTurn_of {w : World} {tv sv lv : Value} {n m : Nat} {ys zs : Nat → Int} {ok : Bool} (ao so lo : Option Addr) (a b c a' b' c' : Nat) (e1 : tv = .slice ao a a') (e2 : sv = .slice so b b') (e3 : lv = .slice lo c c') (h : Calls Try.prog 5 #[tv, sv, lv] w fun e w' => P3 w w' e n m ys zs ok) : Calls Try.prog 11 #[tv, sv, lv] w fun e w' => P3 w w' e n m ys zs ok := by
  subst e1 e2 e3
  go_enter Try.func11, Try.ntmps11
  go_wp2_with (first
    | (go_at_call 5; (with_reducible refine h.mono ?_); rintro e w1 ⟨u0, u1, rfl, q1, q2, q3, q4⟩; have Q : Hid _ := And.intro q1 (And.intro q2 (And.intro q3 q4)); clear q1 q2 q3 q4))
  go_ret3
  exact ⟨_, _, rfl, Q.out.1, Q.out.2.1, Q.out.2.2.1, Q.out.2.2.2⟩

theorem sTurn {w : World} {tv sv lv : Value} {a b c n m : Nat} {f st xs ys zs : Nat → Int} {ok : Bool} (ht : Il w tv a f) (hs : Il w sv b st) (hl : Il w lv c xs) (h : Calls Try.prog 5 #[tv, sv, lv] w fun e w' => P3 w w' e n m ys zs ok) : Calls Try.prog 11 #[tv, sv, lv] w fun e w' => P3 w w' e n m ys zs ok := by
  obtain ⟨so, sc, e2, _, _⟩ := hs
  obtain ⟨ao, tc, e1, _, _⟩ := ht
  obtain ⟨lo, lc, e3, _, _⟩ := hl
  exact sTurn_of ao so lo _ _ _ _ _ _ e1 e2 e3 h

set_option maxRecDepth 20000 in
set_option maxHeartbeats 8000000 in
theorem wturn_of {w : World} {v1 : Value} {n1 : Nat} {xs1 : Nat → Int} {v2 : Value} {n2 : Nat} {xs2 : Nat → Int} {v3 : Value} {n3 : Nat} {xs3 : Nat → Int}  (hv1 : Il w v1 n1 xs1) (hn1 : n1 ≤ 9223372036854775807) (hv2 : Il w v2 n2 xs2) (hn2 : n2 ≤ 9223372036854775807) (hv3 : Il w v3 n3 xs3) (hn3 : n3 ≤ 9223372036854775807) (N0 : Nat) (hN0 : N0 ≤ 1048576) (z0 : Nat → Int) (N1 : Nat) (hN1 : N1 ≤ 1048576) (z1 : Nat → Int) (ok : Bool)
    (hs : n1 ≤ 1048576 → n2 ≤ 1048576 → n3 ≤ 1048576 → ∀ W u1 u2 u3, (∃ B, W.ownsRow B 3 1 u1 n1 (ils xs1 n1)) → (∃ B, W.ownsRow B 3 1 u2 n2 (ils xs2 n2)) → (∃ B, W.ownsRow B 3 1 u3 n3 (ils xs3 n3)) → Calls Try.prog 11 #[u1, u2, u3] W fun e w' => P3 W w' e N0 N1 z0 z1 ok)
    (hi : n1 ≤ 1048576 → n2 ≤ 1048576 → n3 ≤ 1048576 → ∀ W u1 u2 u3, (∃ B, W.ownsRow B 3 1 u1 n1 (ils xs1 n1)) → (∃ B, W.ownsRow B 3 1 u2 n2 (ils xs2 n2)) → (∃ B, W.ownsRow B 3 1 u3 n3 (ils xs3 n3)) → Calls Try.prog 12 #[u1, u2, u3] W fun e w' => P3 W w' e N0 N1 z0 z1 ok) :
    Calls Try.prog 4 #[v1, v2, v3] w fun e w' => e = .returned (.bool true) ∧ Below w.heap.size w w' := by
  rcases Nat.lt_or_ge 1048576 n1 with h1 | h1
  · obtain ⟨ao1, cap1, rfl, hcap1, hc1⟩ := hv1
    obtain ⟨ao2, cap2, rfl, hcap2, hc2⟩ := hv2
    obtain ⟨ao3, cap3, rfl, hcap3, hc3⟩ := hv3
    clear hc1 hc2 hc3 hs hi
    go_enter Try.func4, Try.ntmps4
    go_wp2
    go_ret
    exact ⟨rfl, Below.refl _ _⟩
  rcases Nat.lt_or_ge 1048576 n2 with h2 | h2
  · obtain ⟨ao1, cap1, rfl, hcap1, hc1⟩ := hv1
    obtain ⟨ao2, cap2, rfl, hcap2, hc2⟩ := hv2
    obtain ⟨ao3, cap3, rfl, hcap3, hc3⟩ := hv3
    clear hc1 hc2 hc3 hs hi
    go_enter Try.func4, Try.ntmps4
    go_wp2
    go_ret
    exact ⟨rfl, Below.refl _ _⟩
  rcases Nat.lt_or_ge 1048576 n3 with h3 | h3
  · obtain ⟨ao1, cap1, rfl, hcap1, hc1⟩ := hv1
    obtain ⟨ao2, cap2, rfl, hcap2, hc2⟩ := hv2
    obtain ⟨ao3, cap3, rfl, hcap3, hc3⟩ := hv3
    clear hc1 hc2 hc3 hs hi
    go_enter Try.func4, Try.ntmps4
    go_wp2
    go_ret
    exact ⟨rfl, Below.refl _ _⟩
  have FV1 : Hid (Il w v1 n1 xs1) := hv1
  have FV2 : Hid (Il w v2 n2 xs2) := hv2
  have FV3 : Hid (Il w v3 n3 xs3) := hv3
  have HS : Hid (∀ W u1 u2 u3, (∃ B, W.ownsRow B 3 1 u1 n1 (ils xs1 n1)) → (∃ B, W.ownsRow B 3 1 u2 n2 (ils xs2 n2)) → (∃ B, W.ownsRow B 3 1 u3 n3 (ils xs3 n3)) → Calls Try.prog 11 #[u1, u2, u3] W fun e w' => P3 W w' e N0 N1 z0 z1 ok) := hs h1 h2 h3
  have HI : Hid (∀ W u1 u2 u3, (∃ B, W.ownsRow B 3 1 u1 n1 (ils xs1 n1)) → (∃ B, W.ownsRow B 3 1 u2 n2 (ils xs2 n2)) → (∃ B, W.ownsRow B 3 1 u3 n3 (ils xs3 n3)) → Calls Try.prog 12 #[u1, u2, u3] W fun e w' => P3 W w' e N0 N1 z0 z1 ok) := hi h1 h2 h3
  obtain ⟨ao1, cap1, rfl, hcap1, hc1⟩ := hv1
  obtain ⟨ao2, cap2, rfl, hcap2, hc2⟩ := hv2
  obtain ⟨ao3, cap3, rfl, hcap3, hc3⟩ := hv3
  clear hc1 hc2 hc3 hs hi
  go_enter Try.func4, Try.ntmps4
  go_wp2_with (first
    | (go_at_call 6; (fail_if_success have := M1); refine (copy_own FV1.out h1).mono ?_; rintro e W1 ⟨hb1, a1, rfl, hf1, ho1⟩; have M1 : Hid True := trivial; have B_1 : Hid (Below w.heap.size w W1) := hb1; have Oa1_1 : Hid (W1.ownsRow w.heap.size 3 1 a1 n1 (ils xs1 n1)) := ho1; clear hb1 ho1 hf1)
    | (go_at_call 6; have Z := M1; (fail_if_success have := M2); refine (copy_own (Il.below FV2.out B_1.out) h2).mono ?_; rintro e W2 ⟨hb2, a2, rfl, hf2, ho2⟩; have M2 : Hid True := trivial; have B_2 : Hid (Below w.heap.size w W2) := bstep B_1.out hb2; have Oa1_2 : Hid (W2.ownsRow w.heap.size 3 1 a1 n1 (ils xs1 n1)) := own_below Oa1_1.out hb2; have Oa2_2 : Hid (W2.ownsRow W1.heap.size 3 1 a2 n2 (ils xs2 n2)) := ho2; clear hb2 ho2 hf2)
    | (go_at_call 6; have Z := M2; (fail_if_success have := M3); refine (copy_own (Il.below FV3.out B_2.out) h3).mono ?_; rintro e W3 ⟨hb3, a3, rfl, hf3, ho3⟩; have M3 : Hid True := trivial; have B_3 : Hid (Below w.heap.size w W3) := bstep B_2.out hb3; have Oa1_3 : Hid (W3.ownsRow w.heap.size 3 1 a1 n1 (ils xs1 n1)) := own_below Oa1_2.out hb3; have Oa2_3 : Hid (W3.ownsRow W1.heap.size 3 1 a2 n2 (ils xs2 n2)) := own_below Oa2_2.out hb3; have Oa3_3 : Hid (W3.ownsRow W2.heap.size 3 1 a3 n3 (ils xs3 n3)) := ho3; clear hb3 ho3 hf3)
    | (go_at_call 11; have Z := M3; (fail_if_success have := M4); refine (HS.out _ _ _ _ ⟨_, Oa1_3.out⟩ ⟨_, Oa2_3.out⟩ ⟨_, Oa3_3.out⟩).mono ?_; rintro e W4 ⟨u0, u1, rfl, hoa4, hob4, hap4, hb4⟩; have M4 : Hid True := trivial; have B_4 : Hid (Below w.heap.size w W4) := bstep B_3.out hb4; have Oa1_4 : Hid (W4.ownsRow w.heap.size 3 1 a1 n1 (ils xs1 n1)) := own_below Oa1_3.out hb4; have Oa2_4 : Hid (W4.ownsRow W1.heap.size 3 1 a2 n2 (ils xs2 n2)) := own_below Oa2_3.out hb4; have Oa3_4 : Hid (W4.ownsRow W2.heap.size 3 1 a3 n3 (ils xs3 n3)) := own_below Oa3_3.out hb4; have FW0_4 : Hid (Il W4 u0 N0 z0) := il_of_own hoa4; have FW1_4 : Hid (Il W4 u1 N1 z1) := il_of_own hob4; clear hb4 hoa4 hob4 hap4)
    | (go_at_call 6; have Z := M4; (fail_if_success have := M5); refine (copy_own (Il.below FV1.out B_4.out) h1).mono ?_; rintro e W5 ⟨hb5, x1, rfl, hf5, ho5⟩; have M5 : Hid True := trivial; have B_5 : Hid (Below w.heap.size w W5) := bstep B_4.out hb5; have D_5 : Hid (Below W4.heap.size W4 W5) := hb5; have Ox1_5 : Hid (W5.ownsRow W4.heap.size 3 1 x1 n1 (ils xs1 n1)) := ho5; clear hb5 ho5 hf5)
    | (go_at_call 6; have Z := M5; (fail_if_success have := M6); refine (copy_own (Il.below FV2.out B_5.out) h2).mono ?_; rintro e W6 ⟨hb6, x2, rfl, hf6, ho6⟩; have M6 : Hid True := trivial; have B_6 : Hid (Below w.heap.size w W6) := bstep B_5.out hb6; have D_6 : Hid (Below W4.heap.size W4 W6) := bstep D_5.out hb6; have Ox1_6 : Hid (W6.ownsRow W4.heap.size 3 1 x1 n1 (ils xs1 n1)) := own_below Ox1_5.out hb6; have S1_6 : Hid (W5.heap.size ≤ W6.heap.size) := hb6.size; have Ox2_6 : Hid (W6.ownsRow W5.heap.size 3 1 x2 n2 (ils xs2 n2)) := ho6; clear hb6 ho6 hf6)
    | (go_at_call 6; have Z := M6; (fail_if_success have := M7); refine (copy_own (Il.below FV3.out B_6.out) h3).mono ?_; rintro e W7 ⟨hb7, x3, rfl, hf7, ho7⟩; have M7 : Hid True := trivial; have B_7 : Hid (Below w.heap.size w W7) := bstep B_6.out hb7; have D_7 : Hid (Below W4.heap.size W4 W7) := bstep D_6.out hb7; have Ox1_7 : Hid (W7.ownsRow W4.heap.size 3 1 x1 n1 (ils xs1 n1)) := own_below Ox1_6.out hb7; have S1_7 : Hid (W5.heap.size ≤ W7.heap.size) := Nat.le_trans S1_6.out hb7.size; have Ox2_7 : Hid (W7.ownsRow W5.heap.size 3 1 x2 n2 (ils xs2 n2)) := own_below Ox2_6.out hb7; have S2_7 : Hid (W6.heap.size ≤ W7.heap.size) := hb7.size; have Ox3_7 : Hid (W7.ownsRow W6.heap.size 3 1 x3 n3 (ils xs3 n3)) := ho7; clear hb7 ho7 hf7)
    | (go_at_call 12; have Z := M7; (fail_if_success have := M8); refine (HI.out _ _ _ _ ⟨_, Ox1_7.out⟩ ⟨_, Ox2_7.out⟩ ⟨_, Ox3_7.out⟩).mono ?_; rintro e W8 ⟨g0, g1, rfl, hoa8, hob8, hap8, hb8⟩; have M8 : Hid True := trivial; have B_8 : Hid (Below w.heap.size w W8) := bstep B_7.out hb8; have D_8 : Hid (Below W4.heap.size W4 W8) := bstep D_7.out hb8; have Ox1_8 : Hid (W8.ownsRow W4.heap.size 3 1 x1 n1 (ils xs1 n1)) := own_below Ox1_7.out hb8; have S1_8 : Hid (W5.heap.size ≤ W8.heap.size) := Nat.le_trans S1_7.out hb8.size; have Ox2_8 : Hid (W8.ownsRow W5.heap.size 3 1 x2 n2 (ils xs2 n2)) := own_below Ox2_7.out hb8; have S2_8 : Hid (W6.heap.size ≤ W8.heap.size) := Nat.le_trans S2_7.out hb8.size; have Ox3_8 : Hid (W8.ownsRow W6.heap.size 3 1 x3 n3 (ils xs3 n3)) := own_below Ox3_7.out hb8; have SG_8 : Hid (W7.heap.size ≤ W8.heap.size) := hb8.size; have OG0_8 : Hid (W8.ownsRow W7.heap.size 3 1 g0 N0 (ils z0 N0)) := hoa8; have OG1_8 : Hid (W8.ownsRow W7.heap.size 3 1 g1 N1 (ils z1 N1)) := hob8; have AG_8 : Hid (Apart g0 g1) := hap8; clear hb8 hoa8 hob8 hap8)
    | (go_at_call 8; have Z := M8; (fail_if_success have := M9); refine (eq_yes (il_of_own OG0_8.out) (Il.below FW0_4.out D_8.out) hN0).mono ?_; rintro e W9 ⟨rfl, hb9⟩; have M9 : Hid True := trivial; have B_9 : Hid (Below w.heap.size w W9) := bstep B_8.out hb9; have D_9 : Hid (Below W4.heap.size W4 W9) := bstep D_8.out hb9; have Ox1_9 : Hid (W9.ownsRow W4.heap.size 3 1 x1 n1 (ils xs1 n1)) := own_below Ox1_8.out hb9; have S1_9 : Hid (W5.heap.size ≤ W9.heap.size) := Nat.le_trans S1_8.out hb9.size; have Ox2_9 : Hid (W9.ownsRow W5.heap.size 3 1 x2 n2 (ils xs2 n2)) := own_below Ox2_8.out hb9; have S2_9 : Hid (W6.heap.size ≤ W9.heap.size) := Nat.le_trans S2_8.out hb9.size; have Ox3_9 : Hid (W9.ownsRow W6.heap.size 3 1 x3 n3 (ils xs3 n3)) := own_below Ox3_8.out hb9; have SG_9 : Hid (W7.heap.size ≤ W9.heap.size) := Nat.le_trans SG_8.out hb9.size; have OG0_9 : Hid (W9.ownsRow W7.heap.size 3 1 g0 N0 (ils z0 N0)) := own_below OG0_8.out hb9; have OG1_9 : Hid (W9.ownsRow W7.heap.size 3 1 g1 N1 (ils z1 N1)) := own_below OG1_8.out hb9; clear hb9)
    | (go_at_call 8; have Z := M9; (fail_if_success have := M10); refine (eq_yes (il_of_own OG1_9.out) (Il.below FW1_4.out D_9.out) hN1).mono ?_; rintro e W10 ⟨rfl, hb10⟩; have M10 : Hid True := trivial; have B_10 : Hid (Below w.heap.size w W10) := bstep B_9.out hb10; have D_10 : Hid (Below W4.heap.size W4 W10) := bstep D_9.out hb10; have Ox1_10 : Hid (W10.ownsRow W4.heap.size 3 1 x1 n1 (ils xs1 n1)) := own_below Ox1_9.out hb10; have S1_10 : Hid (W5.heap.size ≤ W10.heap.size) := Nat.le_trans S1_9.out hb10.size; have Ox2_10 : Hid (W10.ownsRow W5.heap.size 3 1 x2 n2 (ils xs2 n2)) := own_below Ox2_9.out hb10; have S2_10 : Hid (W6.heap.size ≤ W10.heap.size) := Nat.le_trans S2_9.out hb10.size; have Ox3_10 : Hid (W10.ownsRow W6.heap.size 3 1 x3 n3 (ils xs3 n3)) := own_below Ox3_9.out hb10; have SG_10 : Hid (W7.heap.size ≤ W10.heap.size) := Nat.le_trans SG_9.out hb10.size; have OG0_10 : Hid (W10.ownsRow W7.heap.size 3 1 g0 N0 (ils z0 N0)) := own_below OG0_9.out hb10; have OG1_10 : Hid (W10.ownsRow W7.heap.size 3 1 g1 N1 (ils z1 N1)) := own_below OG1_9.out hb10; clear hb10)
    | (go_at_call 6; have Z := M10; (fail_if_success have := M11); refine (copy_own (Il.below FV1.out B_10.out) h1).mono ?_; rintro e W11 ⟨hb11, y1, rfl, hf11, ho11⟩; have M11 : Hid True := trivial; have B_11 : Hid (Below w.heap.size w W11) := bstep B_10.out hb11; have D_11 : Hid (Below W4.heap.size W4 W11) := bstep D_10.out hb11; have Ox1_11 : Hid (W11.ownsRow W4.heap.size 3 1 x1 n1 (ils xs1 n1)) := own_below Ox1_10.out hb11; have S1_11 : Hid (W5.heap.size ≤ W11.heap.size) := Nat.le_trans S1_10.out hb11.size; have Ox2_11 : Hid (W11.ownsRow W5.heap.size 3 1 x2 n2 (ils xs2 n2)) := own_below Ox2_10.out hb11; have S2_11 : Hid (W6.heap.size ≤ W11.heap.size) := Nat.le_trans S2_10.out hb11.size; have Ox3_11 : Hid (W11.ownsRow W6.heap.size 3 1 x3 n3 (ils xs3 n3)) := own_below Ox3_10.out hb11; have SG_11 : Hid (W7.heap.size ≤ W11.heap.size) := Nat.le_trans SG_10.out hb11.size; have OG0_11 : Hid (W11.ownsRow W7.heap.size 3 1 g0 N0 (ils z0 N0)) := own_below OG0_10.out hb11; have OG1_11 : Hid (W11.ownsRow W7.heap.size 3 1 g1 N1 (ils z1 N1)) := own_below OG1_10.out hb11; have Oy1_11 : Hid (W11.ownsRow W10.heap.size 3 1 y1 n1 (ils xs1 n1)) := ho11; clear hb11 ho11 hf11)
    | (go_at_call 8; have Z := M11; (fail_if_success have := M12); refine (eq_yes (il_of_own Ox1_11.out) (il_of_own Oy1_11.out) h1).mono ?_; rintro e W12 ⟨rfl, hb12⟩; have M12 : Hid True := trivial; have B_12 : Hid (Below w.heap.size w W12) := bstep B_11.out hb12; have D_12 : Hid (Below W4.heap.size W4 W12) := bstep D_11.out hb12; have Ox1_12 : Hid (W12.ownsRow W4.heap.size 3 1 x1 n1 (ils xs1 n1)) := own_below Ox1_11.out hb12; have S1_12 : Hid (W5.heap.size ≤ W12.heap.size) := Nat.le_trans S1_11.out hb12.size; have Ox2_12 : Hid (W12.ownsRow W5.heap.size 3 1 x2 n2 (ils xs2 n2)) := own_below Ox2_11.out hb12; have S2_12 : Hid (W6.heap.size ≤ W12.heap.size) := Nat.le_trans S2_11.out hb12.size; have Ox3_12 : Hid (W12.ownsRow W6.heap.size 3 1 x3 n3 (ils xs3 n3)) := own_below Ox3_11.out hb12; have SG_12 : Hid (W7.heap.size ≤ W12.heap.size) := Nat.le_trans SG_11.out hb12.size; have OG0_12 : Hid (W12.ownsRow W7.heap.size 3 1 g0 N0 (ils z0 N0)) := own_below OG0_11.out hb12; have OG1_12 : Hid (W12.ownsRow W7.heap.size 3 1 g1 N1 (ils z1 N1)) := own_below OG1_11.out hb12; have Oy1_12 : Hid (W12.ownsRow W10.heap.size 3 1 y1 n1 (ils xs1 n1)) := own_below Oy1_11.out hb12; clear hb12)
    | (go_at_call 6; have Z := M12; (fail_if_success have := M13); refine (copy_own (Il.below FV2.out B_12.out) h2).mono ?_; rintro e W13 ⟨hb13, y2, rfl, hf13, ho13⟩; have M13 : Hid True := trivial; have B_13 : Hid (Below w.heap.size w W13) := bstep B_12.out hb13; have D_13 : Hid (Below W4.heap.size W4 W13) := bstep D_12.out hb13; have Ox1_13 : Hid (W13.ownsRow W4.heap.size 3 1 x1 n1 (ils xs1 n1)) := own_below Ox1_12.out hb13; have S1_13 : Hid (W5.heap.size ≤ W13.heap.size) := Nat.le_trans S1_12.out hb13.size; have Ox2_13 : Hid (W13.ownsRow W5.heap.size 3 1 x2 n2 (ils xs2 n2)) := own_below Ox2_12.out hb13; have S2_13 : Hid (W6.heap.size ≤ W13.heap.size) := Nat.le_trans S2_12.out hb13.size; have Ox3_13 : Hid (W13.ownsRow W6.heap.size 3 1 x3 n3 (ils xs3 n3)) := own_below Ox3_12.out hb13; have SG_13 : Hid (W7.heap.size ≤ W13.heap.size) := Nat.le_trans SG_12.out hb13.size; have OG0_13 : Hid (W13.ownsRow W7.heap.size 3 1 g0 N0 (ils z0 N0)) := own_below OG0_12.out hb13; have OG1_13 : Hid (W13.ownsRow W7.heap.size 3 1 g1 N1 (ils z1 N1)) := own_below OG1_12.out hb13; have Oy2_13 : Hid (W13.ownsRow W12.heap.size 3 1 y2 n2 (ils xs2 n2)) := ho13; clear hb13 ho13 hf13)
    | (go_at_call 8; have Z := M13; (fail_if_success have := M14); refine (eq_yes (il_of_own Ox2_13.out) (il_of_own Oy2_13.out) h2).mono ?_; rintro e W14 ⟨rfl, hb14⟩; have M14 : Hid True := trivial; have B_14 : Hid (Below w.heap.size w W14) := bstep B_13.out hb14; have D_14 : Hid (Below W4.heap.size W4 W14) := bstep D_13.out hb14; have Ox1_14 : Hid (W14.ownsRow W4.heap.size 3 1 x1 n1 (ils xs1 n1)) := own_below Ox1_13.out hb14; have S1_14 : Hid (W5.heap.size ≤ W14.heap.size) := Nat.le_trans S1_13.out hb14.size; have Ox2_14 : Hid (W14.ownsRow W5.heap.size 3 1 x2 n2 (ils xs2 n2)) := own_below Ox2_13.out hb14; have S2_14 : Hid (W6.heap.size ≤ W14.heap.size) := Nat.le_trans S2_13.out hb14.size; have Ox3_14 : Hid (W14.ownsRow W6.heap.size 3 1 x3 n3 (ils xs3 n3)) := own_below Ox3_13.out hb14; have SG_14 : Hid (W7.heap.size ≤ W14.heap.size) := Nat.le_trans SG_13.out hb14.size; have OG0_14 : Hid (W14.ownsRow W7.heap.size 3 1 g0 N0 (ils z0 N0)) := own_below OG0_13.out hb14; have OG1_14 : Hid (W14.ownsRow W7.heap.size 3 1 g1 N1 (ils z1 N1)) := own_below OG1_13.out hb14; have Oy2_14 : Hid (W14.ownsRow W12.heap.size 3 1 y2 n2 (ils xs2 n2)) := own_below Oy2_13.out hb14; clear hb14)
    | (go_at_call 6; have Z := M14; (fail_if_success have := M15); refine (copy_own (Il.below FV3.out B_14.out) h3).mono ?_; rintro e W15 ⟨hb15, y3, rfl, hf15, ho15⟩; have M15 : Hid True := trivial; have B_15 : Hid (Below w.heap.size w W15) := bstep B_14.out hb15; have D_15 : Hid (Below W4.heap.size W4 W15) := bstep D_14.out hb15; have Ox1_15 : Hid (W15.ownsRow W4.heap.size 3 1 x1 n1 (ils xs1 n1)) := own_below Ox1_14.out hb15; have S1_15 : Hid (W5.heap.size ≤ W15.heap.size) := Nat.le_trans S1_14.out hb15.size; have Ox2_15 : Hid (W15.ownsRow W5.heap.size 3 1 x2 n2 (ils xs2 n2)) := own_below Ox2_14.out hb15; have S2_15 : Hid (W6.heap.size ≤ W15.heap.size) := Nat.le_trans S2_14.out hb15.size; have Ox3_15 : Hid (W15.ownsRow W6.heap.size 3 1 x3 n3 (ils xs3 n3)) := own_below Ox3_14.out hb15; have SG_15 : Hid (W7.heap.size ≤ W15.heap.size) := Nat.le_trans SG_14.out hb15.size; have OG0_15 : Hid (W15.ownsRow W7.heap.size 3 1 g0 N0 (ils z0 N0)) := own_below OG0_14.out hb15; have OG1_15 : Hid (W15.ownsRow W7.heap.size 3 1 g1 N1 (ils z1 N1)) := own_below OG1_14.out hb15; have Oy3_15 : Hid (W15.ownsRow W14.heap.size 3 1 y3 n3 (ils xs3 n3)) := ho15; clear hb15 ho15 hf15)
    | (go_at_call 8; have Z := M15; (fail_if_success have := M16); refine (eq_yes (il_of_own Ox3_15.out) (il_of_own Oy3_15.out) h3).mono ?_; rintro e W16 ⟨rfl, hb16⟩; have M16 : Hid True := trivial; have B_16 : Hid (Below w.heap.size w W16) := bstep B_15.out hb16; have D_16 : Hid (Below W4.heap.size W4 W16) := bstep D_15.out hb16; have Ox1_16 : Hid (W16.ownsRow W4.heap.size 3 1 x1 n1 (ils xs1 n1)) := own_below Ox1_15.out hb16; have S1_16 : Hid (W5.heap.size ≤ W16.heap.size) := Nat.le_trans S1_15.out hb16.size; have Ox2_16 : Hid (W16.ownsRow W5.heap.size 3 1 x2 n2 (ils xs2 n2)) := own_below Ox2_15.out hb16; have S2_16 : Hid (W6.heap.size ≤ W16.heap.size) := Nat.le_trans S2_15.out hb16.size; have Ox3_16 : Hid (W16.ownsRow W6.heap.size 3 1 x3 n3 (ils xs3 n3)) := own_below Ox3_15.out hb16; have SG_16 : Hid (W7.heap.size ≤ W16.heap.size) := Nat.le_trans SG_15.out hb16.size; have OG0_16 : Hid (W16.ownsRow W7.heap.size 3 1 g0 N0 (ils z0 N0)) := own_below OG0_15.out hb16; have OG1_16 : Hid (W16.ownsRow W7.heap.size 3 1 g1 N1 (ils z1 N1)) := own_below OG1_15.out hb16; have Oy3_16 : Hid (W16.ownsRow W14.heap.size 3 1 y3 n3 (ils xs3 n3)) := own_below Oy3_15.out hb16; clear hb16)
    | (go_at_call 9; have Z := M16; (fail_if_success have := M17); refine (markedF (K := 1) (B := W4.heap.size) (n := n1) (v := x1) (f := xs1) Ox1_16.out D_16.out.size h1 (by omega)).mono ?_; rintro e W17 ⟨rfl, _, gx17, hg17, hor17, hon17⟩; have M17 : Hid True := trivial; have B_17 : Hid (Below w.heap.size w W17) := Below.only B_16.out hon17 (Nat.le_trans B_4.out.size hg17); have D_17 : Hid (Below W4.heap.size W4 W17) := Below.only D_16.out hon17 (hg17); have S1_17 : Hid (W5.heap.size ≤ W17.heap.size) := Nat.le_trans S1_16.out hon17.size; have Ox2_17 : Hid (W17.ownsRow W5.heap.size 3 1 x2 n2 (ils xs2 n2)) := own_only' (w3 := W5) (e := 3) (s := 1) (v := x2) (n := n2) (xs := ils xs2 n2) (x := x1) (m := n1) (L := ils xs1 n1) (B3 := W4.heap.size) Ox2_16.out hon17 hor17 Ox1_5.out; have S2_17 : Hid (W6.heap.size ≤ W17.heap.size) := Nat.le_trans S2_16.out hon17.size; have Ox3_17 : Hid (W17.ownsRow W6.heap.size 3 1 x3 n3 (ils xs3 n3)) := own_only' (w3 := W6) (e := 3) (s := 1) (v := x3) (n := n3) (xs := ils xs3 n3) (x := x1) (m := n1) (L := ils xs1 n1) (B3 := W4.heap.size) Ox3_16.out hon17 hor17 Ox1_6.out; have SG_17 : Hid (W7.heap.size ≤ W17.heap.size) := Nat.le_trans SG_16.out hon17.size; have OG0_17 : Hid (W17.ownsRow W7.heap.size 3 1 g0 N0 (ils z0 N0)) := own_only' (w3 := W7) (e := 3) (s := 1) (v := g0) (n := N0) (xs := ils z0 N0) (x := x1) (m := n1) (L := ils xs1 n1) (B3 := W4.heap.size) OG0_16.out hon17 hor17 Ox1_7.out; have OG1_17 : Hid (W17.ownsRow W7.heap.size 3 1 g1 N1 (ils z1 N1)) := own_only' (w3 := W7) (e := 3) (s := 1) (v := g1) (n := N1) (xs := ils z1 N1) (x := x1) (m := n1) (L := ils xs1 n1) (B3 := W4.heap.size) OG1_16.out hon17 hor17 Ox1_7.out; clear hon17 hor17 hg17)
    | (go_at_call 9; have Z := M17; (fail_if_success have := M18); refine (markedF (K := 1 + (n1 : Int)) (B := W5.heap.size) (n := n2) (v := x2) (f := xs2) Ox2_17.out S1_17.out h2 (by omega)).mono ?_; rintro e W18 ⟨rfl, _, gx18, hg18, hor18, hon18⟩; have M18 : Hid True := trivial; have B_18 : Hid (Below w.heap.size w W18) := Below.only B_17.out hon18 (Nat.le_trans B_5.out.size hg18); have D_18 : Hid (Below W4.heap.size W4 W18) := Below.only D_17.out hon18 (Nat.le_trans D_5.out.size hg18); have S1_18 : Hid (W5.heap.size ≤ W18.heap.size) := Nat.le_trans S1_17.out hon18.size; have S2_18 : Hid (W6.heap.size ≤ W18.heap.size) := Nat.le_trans S2_17.out hon18.size; have Ox3_18 : Hid (W18.ownsRow W6.heap.size 3 1 x3 n3 (ils xs3 n3)) := own_only' (w3 := W6) (e := 3) (s := 1) (v := x3) (n := n3) (xs := ils xs3 n3) (x := x2) (m := n2) (L := ils xs2 n2) (B3 := W5.heap.size) Ox3_17.out hon18 hor18 Ox2_6.out; have SG_18 : Hid (W7.heap.size ≤ W18.heap.size) := Nat.le_trans SG_17.out hon18.size; have OG0_18 : Hid (W18.ownsRow W7.heap.size 3 1 g0 N0 (ils z0 N0)) := own_only' (w3 := W7) (e := 3) (s := 1) (v := g0) (n := N0) (xs := ils z0 N0) (x := x2) (m := n2) (L := ils xs2 n2) (B3 := W5.heap.size) OG0_17.out hon18 hor18 Ox2_7.out; have OG1_18 : Hid (W18.ownsRow W7.heap.size 3 1 g1 N1 (ils z1 N1)) := own_only' (w3 := W7) (e := 3) (s := 1) (v := g1) (n := N1) (xs := ils z1 N1) (x := x2) (m := n2) (L := ils xs2 n2) (B3 := W5.heap.size) OG1_17.out hon18 hor18 Ox2_7.out; clear hon18 hor18 hg18)
    | (go_at_call 9; have Z := M18; (fail_if_success have := M19); refine (markedF (K := 1 + (n1 : Int) + (n2 : Int)) (B := W6.heap.size) (n := n3) (v := x3) (f := xs3) Ox3_18.out S2_18.out h3 (by omega)).mono ?_; rintro e W19 ⟨rfl, _, gx19, hg19, hor19, hon19⟩; have M19 : Hid True := trivial; have B_19 : Hid (Below w.heap.size w W19) := Below.only B_18.out hon19 (Nat.le_trans B_6.out.size hg19); have D_19 : Hid (Below W4.heap.size W4 W19) := Below.only D_18.out hon19 (Nat.le_trans D_6.out.size hg19); have S1_19 : Hid (W5.heap.size ≤ W19.heap.size) := Nat.le_trans S1_18.out hon19.size; have S2_19 : Hid (W6.heap.size ≤ W19.heap.size) := Nat.le_trans S2_18.out hon19.size; have SG_19 : Hid (W7.heap.size ≤ W19.heap.size) := Nat.le_trans SG_18.out hon19.size; have OG0_19 : Hid (W19.ownsRow W7.heap.size 3 1 g0 N0 (ils z0 N0)) := own_only' (w3 := W7) (e := 3) (s := 1) (v := g0) (n := N0) (xs := ils z0 N0) (x := x3) (m := n3) (L := ils xs3 n3) (B3 := W6.heap.size) OG0_18.out hon19 hor19 Ox3_7.out; have OG1_19 : Hid (W19.ownsRow W7.heap.size 3 1 g1 N1 (ils z1 N1)) := own_only' (w3 := W7) (e := 3) (s := 1) (v := g1) (n := N1) (xs := ils z1 N1) (x := x3) (m := n3) (L := ils xs3 n3) (B3 := W6.heap.size) OG1_18.out hon19 hor19 Ox3_7.out; clear hon19 hor19 hg19)
    | (go_at_call 8; have Z := M19; (fail_if_success have := M20); refine (eq_yes (il_of_own OG0_19.out) (Il.below FW0_4.out D_19.out) hN0).mono ?_; rintro e W20 ⟨rfl, hb20⟩; have M20 : Hid True := trivial; have B_20 : Hid (Below w.heap.size w W20) := bstep B_19.out hb20; have D_20 : Hid (Below W4.heap.size W4 W20) := bstep D_19.out hb20; have S1_20 : Hid (W5.heap.size ≤ W20.heap.size) := Nat.le_trans S1_19.out hb20.size; have S2_20 : Hid (W6.heap.size ≤ W20.heap.size) := Nat.le_trans S2_19.out hb20.size; have SG_20 : Hid (W7.heap.size ≤ W20.heap.size) := Nat.le_trans SG_19.out hb20.size; have OG0_20 : Hid (W20.ownsRow W7.heap.size 3 1 g0 N0 (ils z0 N0)) := own_below OG0_19.out hb20; have OG1_20 : Hid (W20.ownsRow W7.heap.size 3 1 g1 N1 (ils z1 N1)) := own_below OG1_19.out hb20; clear hb20)
    | (go_at_call 8; have Z := M20; (fail_if_success have := M21); refine (eq_yes (il_of_own OG1_20.out) (Il.below FW1_4.out D_20.out) hN1).mono ?_; rintro e W21 ⟨rfl, hb21⟩; have M21 : Hid True := trivial; have B_21 : Hid (Below w.heap.size w W21) := bstep B_20.out hb21; have D_21 : Hid (Below W4.heap.size W4 W21) := bstep D_20.out hb21; have S1_21 : Hid (W5.heap.size ≤ W21.heap.size) := Nat.le_trans S1_20.out hb21.size; have S2_21 : Hid (W6.heap.size ≤ W21.heap.size) := Nat.le_trans S2_20.out hb21.size; have SG_21 : Hid (W7.heap.size ≤ W21.heap.size) := Nat.le_trans SG_20.out hb21.size; have OG0_21 : Hid (W21.ownsRow W7.heap.size 3 1 g0 N0 (ils z0 N0)) := own_below OG0_20.out hb21; have OG1_21 : Hid (W21.ownsRow W7.heap.size 3 1 g1 N1 (ils z1 N1)) := own_below OG1_20.out hb21; clear hb21)
    | (go_at_call 9; have Z := M21; (fail_if_success have := M22); refine (markedF (K := 1) (B := W7.heap.size) (n := N0) (v := g0) (f := z0) OG0_21.out SG_21.out hN0 (by omega)).mono ?_; rintro e W22 ⟨rfl, hmk22, gx22, hg22, hor22, hon22⟩; have M22 : Hid True := trivial; have B_22 : Hid (Below w.heap.size w W22) := Below.only B_21.out hon22 (Nat.le_trans B_7.out.size hg22); have D_22 : Hid (Below W4.heap.size W4 W22) := Below.only D_21.out hon22 (Nat.le_trans D_7.out.size hg22); have S1_22 : Hid (W5.heap.size ≤ W22.heap.size) := Nat.le_trans S1_21.out hon22.size; have S2_22 : Hid (W6.heap.size ≤ W22.heap.size) := Nat.le_trans S2_21.out hon22.size; have SG_22 : Hid (W7.heap.size ≤ W22.heap.size) := Nat.le_trans SG_21.out hon22.size; have OG1_22 : Hid (W22.ownsRow W7.heap.size 3 1 g1 N1 (ils z1 N1)) := own_apart OG1_21.out hon22 hor22 (apart_symm AG_8.out); have MG0_22 : Hid (W22.ownsRow W7.heap.size 3 1 g0 N0 (ils (mkF (1)) N0)) := hmk22; clear hon22 hor22 hg22)
    | (go_at_call 9; have Z := M22; (fail_if_success have := M23); refine (markedF (K := 1 + (N0 : Int)) (B := W7.heap.size) (n := N1) (v := g1) (f := z1) OG1_22.out SG_22.out hN1 (by omega)).mono ?_; rintro e W23 ⟨rfl, hmk23, gx23, hg23, hor23, hon23⟩; have M23 : Hid True := trivial; have B_23 : Hid (Below w.heap.size w W23) := Below.only B_22.out hon23 (Nat.le_trans B_7.out.size hg23); have D_23 : Hid (Below W4.heap.size W4 W23) := Below.only D_22.out hon23 (Nat.le_trans D_7.out.size hg23); have S1_23 : Hid (W5.heap.size ≤ W23.heap.size) := Nat.le_trans S1_22.out hon23.size; have S2_23 : Hid (W6.heap.size ≤ W23.heap.size) := Nat.le_trans S2_22.out hon23.size; have SG_23 : Hid (W7.heap.size ≤ W23.heap.size) := Nat.le_trans SG_22.out hon23.size; have MG0_23 : Hid (W23.ownsRow W7.heap.size 3 1 g0 N0 (ils (mkF (1)) N0)) := own_apart MG0_22.out hon23 hor23 AG_8.out; have MG1_23 : Hid (W23.ownsRow W7.heap.size 3 1 g1 N1 (ils (mkF (1 + (N0 : Int))) N1)) := hmk23; clear hon23 hor23 hg23)
    | (go_at_call 10; have Z := M23; (fail_if_success have := M24); refine (heldF (K := 1) MG0_23.out hN0 (by omega)).mono ?_; rintro e w' ⟨rfl, hw⟩; obtain rfl := hw.symm; have M24 : Hid True := trivial)
    | (go_at_call 10; have Z := M24; (fail_if_success have := M25); refine (heldF (K := 1 + (N0 : Int)) MG1_23.out hN1 (by omega)).mono ?_; rintro e w' ⟨rfl, hw⟩; obtain rfl := hw.symm; have M25 : Hid True := trivial)
    | (go_at_call 6; have Z := M25; (fail_if_success have := M26); refine (copy_own (Il.below FV1.out B_23.out) h1).mono ?_; rintro e W26 ⟨hb26, z1_, rfl, hf26, ho26⟩; have M26 : Hid True := trivial; have B_26 : Hid (Below w.heap.size w W26) := bstep B_23.out hb26; have D_26 : Hid (Below W4.heap.size W4 W26) := bstep D_23.out hb26; have S1_26 : Hid (W5.heap.size ≤ W26.heap.size) := Nat.le_trans S1_23.out hb26.size; have S2_26 : Hid (W6.heap.size ≤ W26.heap.size) := Nat.le_trans S2_23.out hb26.size; have SG_26 : Hid (W7.heap.size ≤ W26.heap.size) := Nat.le_trans SG_23.out hb26.size; have MG0_26 : Hid (W26.ownsRow W7.heap.size 3 1 g0 N0 (ils (mkF (1)) N0)) := own_below MG0_23.out hb26; have MG1_26 : Hid (W26.ownsRow W7.heap.size 3 1 g1 N1 (ils (mkF (1 + (N0 : Int))) N1)) := own_below MG1_23.out hb26; have Oz1__26 : Hid (W26.ownsRow W23.heap.size 3 1 z1_ n1 (ils xs1 n1)) := ho26; clear hb26 ho26 hf26)
    | (go_at_call 6; have Z := M26; (fail_if_success have := M27); refine (copy_own (Il.below FV2.out B_26.out) h2).mono ?_; rintro e W27 ⟨hb27, z2_, rfl, hf27, ho27⟩; have M27 : Hid True := trivial; have B_27 : Hid (Below w.heap.size w W27) := bstep B_26.out hb27; have D_27 : Hid (Below W4.heap.size W4 W27) := bstep D_26.out hb27; have S1_27 : Hid (W5.heap.size ≤ W27.heap.size) := Nat.le_trans S1_26.out hb27.size; have S2_27 : Hid (W6.heap.size ≤ W27.heap.size) := Nat.le_trans S2_26.out hb27.size; have SG_27 : Hid (W7.heap.size ≤ W27.heap.size) := Nat.le_trans SG_26.out hb27.size; have MG0_27 : Hid (W27.ownsRow W7.heap.size 3 1 g0 N0 (ils (mkF (1)) N0)) := own_below MG0_26.out hb27; have MG1_27 : Hid (W27.ownsRow W7.heap.size 3 1 g1 N1 (ils (mkF (1 + (N0 : Int))) N1)) := own_below MG1_26.out hb27; have Oz1__27 : Hid (W27.ownsRow W23.heap.size 3 1 z1_ n1 (ils xs1 n1)) := own_below Oz1__26.out hb27; have Oz2__27 : Hid (W27.ownsRow W26.heap.size 3 1 z2_ n2 (ils xs2 n2)) := ho27; clear hb27 ho27 hf27)
    | (go_at_call 6; have Z := M27; (fail_if_success have := M28); refine (copy_own (Il.below FV3.out B_27.out) h3).mono ?_; rintro e W28 ⟨hb28, z3_, rfl, hf28, ho28⟩; have M28 : Hid True := trivial; have B_28 : Hid (Below w.heap.size w W28) := bstep B_27.out hb28; have D_28 : Hid (Below W4.heap.size W4 W28) := bstep D_27.out hb28; have S1_28 : Hid (W5.heap.size ≤ W28.heap.size) := Nat.le_trans S1_27.out hb28.size; have S2_28 : Hid (W6.heap.size ≤ W28.heap.size) := Nat.le_trans S2_27.out hb28.size; have SG_28 : Hid (W7.heap.size ≤ W28.heap.size) := Nat.le_trans SG_27.out hb28.size; have MG0_28 : Hid (W28.ownsRow W7.heap.size 3 1 g0 N0 (ils (mkF (1)) N0)) := own_below MG0_27.out hb28; have MG1_28 : Hid (W28.ownsRow W7.heap.size 3 1 g1 N1 (ils (mkF (1 + (N0 : Int))) N1)) := own_below MG1_27.out hb28; have Oz1__28 : Hid (W28.ownsRow W23.heap.size 3 1 z1_ n1 (ils xs1 n1)) := own_below Oz1__27.out hb28; have Oz2__28 : Hid (W28.ownsRow W26.heap.size 3 1 z2_ n2 (ils xs2 n2)) := own_below Oz2__27.out hb28; have Oz3__28 : Hid (W28.ownsRow W27.heap.size 3 1 z3_ n3 (ils xs3 n3)) := ho28; clear hb28 ho28 hf28)
    | (go_at_call 12; have Z := M28; (fail_if_success have := M29); refine (HI.out _ _ _ _ ⟨_, Oz1__28.out⟩ ⟨_, Oz2__28.out⟩ ⟨_, Oz3__28.out⟩).mono ?_; rintro e W29 ⟨h0, h1, rfl, hoa29, hob29, hap29, hb29⟩; have M29 : Hid True := trivial; have B_29 : Hid (Below w.heap.size w W29) := bstep B_28.out hb29; have D_29 : Hid (Below W4.heap.size W4 W29) := bstep D_28.out hb29; have S1_29 : Hid (W5.heap.size ≤ W29.heap.size) := Nat.le_trans S1_28.out hb29.size; have S2_29 : Hid (W6.heap.size ≤ W29.heap.size) := Nat.le_trans S2_28.out hb29.size; have SG_29 : Hid (W7.heap.size ≤ W29.heap.size) := Nat.le_trans SG_28.out hb29.size; have MG0_29 : Hid (W29.ownsRow W7.heap.size 3 1 g0 N0 (ils (mkF (1)) N0)) := own_below MG0_28.out hb29; have MG1_29 : Hid (W29.ownsRow W7.heap.size 3 1 g1 N1 (ils (mkF (1 + (N0 : Int))) N1)) := own_below MG1_28.out hb29; have Oz1__29 : Hid (W29.ownsRow W23.heap.size 3 1 z1_ n1 (ils xs1 n1)) := own_below Oz1__28.out hb29; have Oz2__29 : Hid (W29.ownsRow W26.heap.size 3 1 z2_ n2 (ils xs2 n2)) := own_below Oz2__28.out hb29; have Oz3__29 : Hid (W29.ownsRow W27.heap.size 3 1 z3_ n3 (ils xs3 n3)) := own_below Oz3__28.out hb29; have OH0_29 : Hid (W29.ownsRow W28.heap.size 3 1 h0 N0 (ils z0 N0)) := hoa29; have OH1_29 : Hid (W29.ownsRow W28.heap.size 3 1 h1 N1 (ils z1 N1)) := hob29; clear hb29 hoa29 hob29 hap29)
    | (go_at_call 8; have Z := M29; (fail_if_success have := M30); refine (eq_yes (il_of_own OH0_29.out) (Il.below FW0_4.out D_29.out) hN0).mono ?_; rintro e W30 ⟨rfl, hb30⟩; have M30 : Hid True := trivial; have B_30 : Hid (Below w.heap.size w W30) := bstep B_29.out hb30; have D_30 : Hid (Below W4.heap.size W4 W30) := bstep D_29.out hb30; have S1_30 : Hid (W5.heap.size ≤ W30.heap.size) := Nat.le_trans S1_29.out hb30.size; have S2_30 : Hid (W6.heap.size ≤ W30.heap.size) := Nat.le_trans S2_29.out hb30.size; have SG_30 : Hid (W7.heap.size ≤ W30.heap.size) := Nat.le_trans SG_29.out hb30.size; have MG0_30 : Hid (W30.ownsRow W7.heap.size 3 1 g0 N0 (ils (mkF (1)) N0)) := own_below MG0_29.out hb30; have MG1_30 : Hid (W30.ownsRow W7.heap.size 3 1 g1 N1 (ils (mkF (1 + (N0 : Int))) N1)) := own_below MG1_29.out hb30; have Oz1__30 : Hid (W30.ownsRow W23.heap.size 3 1 z1_ n1 (ils xs1 n1)) := own_below Oz1__29.out hb30; have Oz2__30 : Hid (W30.ownsRow W26.heap.size 3 1 z2_ n2 (ils xs2 n2)) := own_below Oz2__29.out hb30; have Oz3__30 : Hid (W30.ownsRow W27.heap.size 3 1 z3_ n3 (ils xs3 n3)) := own_below Oz3__29.out hb30; have OH0_30 : Hid (W30.ownsRow W28.heap.size 3 1 h0 N0 (ils z0 N0)) := own_below OH0_29.out hb30; have OH1_30 : Hid (W30.ownsRow W28.heap.size 3 1 h1 N1 (ils z1 N1)) := own_below OH1_29.out hb30; clear hb30)
    | (go_at_call 8; have Z := M30; (fail_if_success have := M31); refine (eq_yes (il_of_own OH1_30.out) (Il.below FW1_4.out D_30.out) hN1).mono ?_; rintro e W31 ⟨rfl, hb31⟩; have M31 : Hid True := trivial; have B_31 : Hid (Below w.heap.size w W31) := bstep B_30.out hb31; have D_31 : Hid (Below W4.heap.size W4 W31) := bstep D_30.out hb31; have S1_31 : Hid (W5.heap.size ≤ W31.heap.size) := Nat.le_trans S1_30.out hb31.size; have S2_31 : Hid (W6.heap.size ≤ W31.heap.size) := Nat.le_trans S2_30.out hb31.size; have SG_31 : Hid (W7.heap.size ≤ W31.heap.size) := Nat.le_trans SG_30.out hb31.size; have MG0_31 : Hid (W31.ownsRow W7.heap.size 3 1 g0 N0 (ils (mkF (1)) N0)) := own_below MG0_30.out hb31; have MG1_31 : Hid (W31.ownsRow W7.heap.size 3 1 g1 N1 (ils (mkF (1 + (N0 : Int))) N1)) := own_below MG1_30.out hb31; have Oz1__31 : Hid (W31.ownsRow W23.heap.size 3 1 z1_ n1 (ils xs1 n1)) := own_below Oz1__30.out hb31; have Oz2__31 : Hid (W31.ownsRow W26.heap.size 3 1 z2_ n2 (ils xs2 n2)) := own_below Oz2__30.out hb31; have Oz3__31 : Hid (W31.ownsRow W27.heap.size 3 1 z3_ n3 (ils xs3 n3)) := own_below Oz3__30.out hb31; have OH0_31 : Hid (W31.ownsRow W28.heap.size 3 1 h0 N0 (ils z0 N0)) := own_below OH0_30.out hb31; have OH1_31 : Hid (W31.ownsRow W28.heap.size 3 1 h1 N1 (ils z1 N1)) := own_below OH1_30.out hb31; clear hb31)
    | (go_at_call 10; have Z := M31; (fail_if_success have := M32); refine (heldF (K := 1) MG0_31.out hN0 (by omega)).mono ?_; rintro e w' ⟨rfl, hw⟩; obtain rfl := hw.symm; have M32 : Hid True := trivial)
    | (go_at_call 10; have Z := M32; (fail_if_success have := M33); refine (heldF (K := 1 + (N0 : Int)) MG1_31.out hN1 (by omega)).mono ?_; rintro e w' ⟨rfl, hw⟩; obtain rfl := hw.symm; have M33 : Hid True := trivial))
  go_ret
  exact ⟨rfl, B_31.out⟩

theorem walk_turn {w : World} {v1 v2 v3 : Value} {n m N : Nat} {f st xs : Nat → Int} (h1 : Il w v1 n f) (hn : n ≤ 9223372036854775807) (h2 : Il w v2 m st) (hm : m ≤ 9223372036854775807) (h3 : Il w v3 N xs) (hN : N ≤ 9223372036854775807) : Calls Try.prog 4 #[v1, v2, v3] w fun e w' => e = .returned (.bool true) ∧ Below w.heap.size w w' := by
  by_cases h : GF n m N f st xs
  · have l1 := h.2.1
    have l2 := h.1.2.1.1
    exact wturn_of h1 hn h2 hm h3 hN N (by omega) _ m (by omega) _ _ (fun _ _ _ W u v x ⟨_, hu⟩ ⟨_, hv⟩ ⟨_, hx⟩ => sTurn (il_of_own hu) (il_of_own hv) (il_of_own hx) (sFir_good (il_of_own hu) hv (il_of_own hx) h)) (fun _ _ _ W u v x ⟨_, hu⟩ ⟨_, hv⟩ ⟨_, hx⟩ => iTurn_good (il_of_own hu) hv (il_of_own hx) h)
  · exact wturn_of h1 hn h2 hm h3 hN 0 (by omega) (fun _ => 0) 0 (by omega) (fun _ => 0) _ (fun a c d W u v x ⟨_, hu⟩ ⟨_, hv⟩ ⟨_, hx⟩ => sTurn (il_of_own hu) (il_of_own hv) (il_of_own hx) (sFir_bad (il_of_own hu) (il_of_own hv) (il_of_own hx) a c d h _ _)) (fun a c d W u v x ⟨_, hu⟩ ⟨_, hv⟩ ⟨_, hx⟩ => iTurn_bad (il_of_own hu) (il_of_own hv) (il_of_own hx) a c d h _ _)

end Go.Proofs.Ythopgochcelnbaa
