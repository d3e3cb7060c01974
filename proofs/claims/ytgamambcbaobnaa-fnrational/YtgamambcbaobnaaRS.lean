/- Rational: both sides. -/
import Derived.Test.YtgamambcbaobnaaRR
namespace Go.Proofs.Ytgamambcbaobnaa
open Go.RowKit

theorem thin_0 {w : World} {v : Value} {n m : Nat} {xs : Nat → Int} (hv : Il w v n xs) (hn : n ≤ 1000000) (hm : m ≤ 1000) (hp : 0 < m) :
    Calls Try.prog 20 #[v, .int .i64 (m : Int), .int .i64 0] w fun e w' => ∃ u, e = .returned u ∧ w'.ownsRow w.heap.size 3 1 u (dN n m 0) (ils (thF m 0 xs) (dN n m 0)) ∧ Below w.heap.size w w' := thin_any (p := 0) hv hn hm hp

set_option maxRecDepth 20000 in
set_option maxHeartbeats 4000000 in
theorem iRat_good {w : World} {lv tv : Value} {n N u d M : Nat} {f xs : Nat → Int} (hl : Il w lv N xs) (ht : Il w tv n f) (h : GRa N n xs f (u : Int) (d : Int)) (hM : M = N * u) :
    Calls Try.prog 6 #[lv, tv, .int .i64 (u : Int), .int .i64 (d : Int)] w fun e w' => Pst w w' e (dN M d 0) (raF n u d f xs) true := by
  obtain ⟨h1, h2, h3, h4⟩ := h
  have hN := h1.1.1
  have hn := h2.1
  have i1 := iMd_any hl (by omega)
  rw [decide_eq_true h1] at i1
  have i2 := iTaps_any ht (by omega)
  rw [decide_eq_true h2] at i2
  have i3 := iRte_any (u : Int)
  rw [decide_eq_true h3] at i3
  have i4 := iRte_any (d : Int)
  rw [decide_eq_true h4] at i4
  obtain ⟨m, hm⟩ : ∃ m : Nat, m + 1 = n := ⟨n - 1, by omega⟩
  have e5 : (n : Int) - 1 = (m : Int) := by omega
  have hM2 : M ≤ 8192 := by rw [hM]; exact Nat.mul_le_mul hN (show u ≤ 16 by omega)
  have hr := mkd_run w (k := m) (by omega)
  have s1 : (mkd w m).heap.size = w.heap.size + 1 := mkd_size _ _
  obtain ⟨lo, lc, rfl, hlc, hc1⟩ := id hl
  obtain ⟨ao, tc, rfl, htc, hc2⟩ := id ht
  have HA : Hid (Calls Try.prog 22 #[.slice lo N lc, .int .i64 (u : Int)] ((mkd w m).alloc (.cells #[.slice ao n tc, .slice (some ⟨w.heap.size, 0, none⟩) m m] 43)) fun e W => ∃ so sc, e = .returned (.slice so M sc) ∧
      Calls Try.prog 21 #[.iface 41 (.pointer (some ⟨w.heap.size + 1, 0, none⟩)), .slice so M sc] W fun e2 W2 => ∃ v, e2 = .returned v ∧ W2.ownsRow w.heap.size 3 1 v M (ils (fir n f (fun _ => 0) (upF u xs)) M) ∧ Below w.heap.size w W2) := ra_run ht hl hm hn.2 h2.2 hN h1.2 (by omega) hM
  clear hc1 hc2 hl ht h1 h2 hM
  go_enter Try.func6, Try.ntmps6
  go_wp2_with (first
    | (go_at_call 17; (with_reducible refine (i1).mono ?_); rintro e w' ⟨rfl, hw⟩; obtain rfl := hw.symm)
    | (go_at_call 18; (with_reducible refine (i2).mono ?_); rintro e w' ⟨rfl, hw⟩; obtain rfl := hw.symm)
    | (go_at_call 19; (with_reducible refine (i3 _).mono ?_); rintro e w' ⟨rfl, hw⟩; obtain rfl := hw.symm)
    | (go_at_call 19; (with_reducible refine (i4 _).mono ?_); rintro e w' ⟨rfl, hw⟩; obtain rfl := hw.symm)
    | (go_at_call 22; (with_reducible refine HA.out.mono ?_); rintro e W ⟨so, sc, rfl, hq⟩; have HQ : Hid (Calls Try.prog 21 #[.iface 41 (.pointer (some ⟨w.heap.size + 1, 0, none⟩)), .slice so M sc] W fun e2 W2 => ∃ v, e2 = .returned v ∧ W2.ownsRow w.heap.size 3 1 v M (ils (fir n f (fun _ => 0) (upF u xs)) M) ∧ Below w.heap.size w W2) := hq; clear hq)
    | (go_at_call 21; (with_reducible refine HQ.out.mono ?_); rintro e W2 ⟨v, rfl, ho, hb⟩; have H2 : Hid (W2.ownsRow w.heap.size 3 1 v M (ils (fir n f (fun _ => 0) (upF u xs)) M) ∧ Below w.heap.size w W2) := ⟨ho, hb⟩; clear ho hb)
    | (go_at_call 20; (with_reducible refine (thin_0 (il_of_own H2.out.1) (by omega) (by omega) (by omega)).mono ?_); rintro e W3 ⟨v3, rfl, ho, hb⟩; have H3 : Hid (W3.ownsRow w.heap.size 3 1 v3 (dN M d 0) (ils (raF n u d f xs) (dN M d 0)) ∧ Below w.heap.size w W3) := ⟨own_base ho H2.out.2.size, bstep H2.out.2 hb⟩; clear ho hb))
  go_ret2
  exact ⟨_, rfl, H3.out.1, H3.out.2⟩

/-- What stands while the model sums. -/
structure Sf (w W : World) (zv ov : Value) (m k : Nat) (z g : Nat → Int) : Prop where
  o2 : W.ownsRow w.heap.size 3 1 zv m (ils z m)
  o3 : W.ownsRow w.heap.size 3 1 ov k (ils g k)
  a3 : Apart zv ov
  bel : Below w.heap.size w W

theorem Sf.below {w W W' : World} {zv ov : Value} {m k : Nat} {z g : Nat → Int} (h : Sf w W zv ov m k z g) (hb : Below W.heap.size W W') : Sf w W' zv ov m k z g :=
  ⟨own_below h.o2 hb, own_below h.o3 hb, h.a3, bstep h.bel hb⟩

/-- The answer made longer. -/
theorem Sf.grown {w W W' : World} {zv ov ov' : Value} {m k : Nat} {z g : Nat → Int} (h : Sf w W zv ov m k z g) (ho : W'.ownsRow w.heap.size 3 1 ov' (k + 1) (ils g (k + 1))) (hg : W.grownBy W' ov.ownBlock) (hk : ov'.ownBlock = ov.ownBlock ∨ (ov'.ownBlock = some W.heap.size ∧ Below W.heap.size W W')) : Sf w W' zv ov' m (k + 1) z g :=
  ⟨own_grown h.o2 hg h.a3, ho, apart_app h.o2 h.a3 (hk.imp id And.left), grown_below h.bel (Nat.le_refl _) h.o3 hg⟩

set_option maxRecDepth 20000 in
set_option maxHeartbeats 8000000 in
theorem sRat_good {w : World} {lv tv : Value} {n N u d M : Nat} {f xs : Nat → Int} (hl : Il w lv N xs) (ht : Il w tv n f) (h : GRa N n xs f (u : Int) (d : Int)) (hM : M = N * u) :
    Calls Try.prog 7 #[lv, tv, .int .i64 (u : Int), .int .i64 (d : Int)] w fun e w' => Pst w w' e (dN M d 0) (raF n u d f xs) true := by
  obtain ⟨i0, hi, hz0, hz1, hz2⟩ := info_parts Try.info3
  obtain ⟨h1, h2, h3, h4⟩ := h
  have hN := h1.1.1
  have hn := h2.1
  have bA := below_one w (.cells #[] 3)
  have i1 := sSig_any (hl.below bA) (by omega)
  rw [decide_eq_true h1.1] at i1
  have i2 := sWth_any (hl.below bA) (by omega) (M := 1000000) (by omega)
  rw [decide_eq_true h1.2] at i2
  have i3 := sTaps_any (ht.below bA) (by omega)
  rw [decide_eq_true h2] at i3
  have i4 := sRte_any (u : Int)
  rw [decide_eq_true h3] at i4
  have i5 := sRte_any (d : Int)
  rw [decide_eq_true h4] at i5
  have hM2 : M ≤ 8192 := by rw [hM]; exact Nat.mul_le_mul hN (show u ≤ 16 by omega)
  have i6 := sDense_any (hl.below bA) hN (show 1 ≤ u by omega) (show u ≤ 16 by omega) hM
  have HX : Hid (Wth 1000000000 M (upF u xs)) := wth_more (by rw [hM]; exact upF_wth h1.2 (by omega))
  have HF : Hid (Wth 1000000 n f) := h2.2
  obtain ⟨lo, lc, rfl, hlc, hc1⟩ := id hl
  obtain ⟨ao, tc, rfl, htc, hc2⟩ := id ht
  obtain ⟨bt, ot, rfl, hbt, hct⟩ := hc2 (by omega)
  have T2 : Hid (∀ k, k < n → w.cell? ⟨bt, ot + k, none⟩ = some (.int .i64 (f k))) := hct
  have HE : Hid ((w.alloc (.cells #[] 3)).ownsRow w.heap.size 3 1 (.slice (some ⟨w.heap.size, 0, none⟩) 0 0) 0 (ils (raF n u d f xs) 0)) := own_empty w 3 1
  have BE : Hid (Below w.heap.size w (w.alloc (.cells #[] 3))) := bA
  have SE : (w.alloc (.cells #[] 3)).heap.size = w.heap.size + 1 := by simp
  clear hc1 hc2 hct hl ht h1 h2 hM bA
  go_enter Try.func7, Try.ntmps7
  go_wp2_with (first
    | (go_at_call 23; (with_reducible refine (i1).mono ?_); rintro e w' ⟨rfl, hw⟩; obtain rfl := hw.symm)
    | (go_at_call 24; (with_reducible refine (i2).mono ?_); rintro e w' ⟨rfl, hw⟩; obtain rfl := hw.symm)
    | (go_at_call 25; (with_reducible refine (i3).mono ?_); rintro e w' ⟨rfl, hw⟩; obtain rfl := hw.symm)
    | (go_at_call 26; (with_reducible refine (i4 _).mono ?_); rintro e w' ⟨rfl, hw⟩; obtain rfl := hw.symm)
    | (go_at_call 26; (with_reducible refine (i5 _).mono ?_); rintro e w' ⟨rfl, hw⟩; obtain rfl := hw.symm)
    | (go_at_call 27; (with_reducible refine i6.mono ?_); rintro e W0 ⟨v0, rfl, ho, hb⟩; have S0 : Hid (Sf w W0 v0 (.slice (some ⟨w.heap.size, 0, none⟩) 0 0) M 0 (upF u xs) (raF n u d f xs)) := ⟨own_base ho BE.out.size, own_below HE.out hb, .inr (fun e => by have := (World.ownsRow.lt ho w.heap.size (by rw [e]; rfl)).1; omega), bstep BE.out hb⟩; obtain ⟨zo, zc, rfl, hzc, hcz⟩ := il_of_own ho; clear ho hb hcz))
  clear HE BE SE i1 i2 i3 i4 i5 i6
  have HT0 : Hid (fir n f (fun _ => 0) (upF u xs) = fir n f (fun _ => 0) (upF u xs)) := rfl
  have HRA : Hid (∀ j, raF n u d f xs j = fir n f (fun _ => 0) (upF u xs) (d * j)) := fun j => (by unfold raF thF; rw [Nat.zero_add])
  obtain ⟨X, hX⟩ : ∃ X, X = upF u xs := ⟨_, rfl⟩
  rw [← hX] at S0 HX HRA
  obtain ⟨R, hR⟩ : ∃ R, R = raF n u d f xs := ⟨_, rfl⟩
  rw [← hR] at S0 HRA
  have HRR : Hid (R = raF n u d f xs) := hR
  clear hX hR HT0
  generalize hov : Value.slice (some ⟨w.heap.size, 0, none⟩) 0 0 = ov0 at S0 ⊢
  clear hov
  go_loopw [10, 12, 13, 14] (fun o i _ _ wr => ∃ j a : Nat, i = .int .i64 a ∧ j ≤ 8192 ∧ Hid ((a = d * j ∧ d * j < M + d) ∧ Sf w wr (.slice zo M zc) o M j X R)) (fun _ i _ _ _ => M + d - (intOf i).toNat)
  case atStart => exact ⟨0, 0, rfl, by omega, ⟨by omega, by omega⟩, S0.out⟩
  case round =>
    obtain ⟨j, a, rfl, hj, hrel⟩ := hrel
    have HM : Hid (a = d * j ∧ d * j < M + d) := hrel.out.1
    by_cases h1 : a < M
    · have SF0 : Hid (Sf w wr (.slice zo M zc) u10 M j X R) := hrel.out.2
      have haj : j ≤ a := by rw [HM.out.1]; exact Nat.le_mul_of_pos_left j (by omega)
      have HZ : Hid (Wth 1000000000 n (bk X a)) := bk_wth HX.out h1 n
      obtain ⟨zb, rfl⟩ : ∃ zb, zo = some ⟨zb, 0, none⟩ := by
        rcases SF0.out.o2.2 with ⟨_, e⟩ | ⟨zb, zc', cur, e, _⟩
        · omega
        · injection e with e1; exact ⟨zb, e1⟩
      clear hrel
      go_wp2
      go_loopw [13, 14] (fun y kk wr2 => ∃ k : Nat, kk = .int .i64 k ∧ y = .int .i64 (dts f (bk X a) k) ∧ k ≤ n ∧ k ≤ a + 1 ∧ Hid (Sf w wr2 (.slice (some ⟨zb, 0, none⟩) M zc) u10 M j X R)) (fun _ kk _ => n - (intOf kk).toNat)
      case atStart => exact ⟨0, rfl, rfl, by omega, by omega, SF0.out⟩
      case round =>
        obtain ⟨k, rfl, rfl, hk, hk2, hrel⟩ := hrel
        have FIN : Hid (k = n ∨ (k = a + 1 ∧ k ≤ n) → dts f (bk X a) k = R j) := fun hK => (by rw [fir_cut hK, HRA.out, ← HM.out.1])
        by_cases h2 : k < n
        · by_cases h3 : k ≤ a
          · have d1 := (hrel.out.bel.cell (p := ⟨bt, ot + k, none⟩) hbt).trans (T2.out k h2)
            obtain ⟨q, hq⟩ : ∃ q : Nat, q = a - k := ⟨_, rfl⟩
            have eq : (a : Int) - (k : Int) = (q : Int) := by omega
            have hqM : q < M := by omega
            have d2 := World.ownsRow.cellAt hrel.out.o2 q (by omega)
            rw [ils_get hqM] at d2
            have hbk : X q = bk X a k := by unfold bk; rw [if_pos h3, hq]
            rw [hbk] at d2
            have m0 := mul_bounds (HF.out k h2) (HZ.out k h2) (by omega) (by omega)
            have pb := dtb HF.out HZ.out k (by omega)
            have ed : dts f (bk X a) k + f k * bk X a k = dts f (bk X a) (k + 1) := rfl
            have SQ : Hid (Sf w wr (.slice (some ⟨zb, 0, none⟩) M zc) u10 M j X R) := hrel.out
            clear hrel hbk hq FIN
            have bp2 : -64000000000000000 ≤ dts f (bk X a) k ∧ dts f (bk X a) k ≤ 64000000000000000 := by omega
            generalize dts f (bk X a) (k + 1) = y1 at ed
            have Y1 : Hid (dts f (bk X a) k + f k * bk X a k = y1) := ed
            go_upto_region 12 with fail
            go_quiet (fail)
            have SQ2 : Hid (Sf w (wr.drewN nq) (.slice (some ⟨zb, 0, none⟩) M zc) u10 M j X R) := SQ.out.below (drewN_below _ _)
            clear SQ d1 d2 m0 pb ed
            generalize wr.drewN nq = W2 at SQ2 ⊢
            go_wp2
            go_roundw
            case rel => exact ⟨k + 1, by go_num, by rw [← Y1.out]; rfl, by omega, by omega, SQ2.out⟩
            case measure => simp [intOf]; omega
          · have hR := FIN.out (.inr ⟨by omega, hk⟩)
            have SQ : Hid (Sf w wr (.slice (some ⟨zb, 0, none⟩) M zc) u10 M j X R) := hrel.out
            obtain ⟨er, her⟩ : ∃ er, er = dts f (bk X a) k := ⟨_, rfl⟩
            have HER : Hid (er = R j) := her.trans hR
            rw [← her]
            clear her hrel hR FIN
            have SQ5 : Hid (Sf w (wr.alloc (.cells #[.int .i64 er] 3)) (.slice (some ⟨zb, 0, none⟩) M zc) u10 M j X R) := SQ.out.below (below_one wr (.cells #[.int .i64 er] 3))
            clear SQ SF0
            go_wp2_with (first | (at_builtin; refine wpList_app _ rfl _ _ 24 rfl w.heap.size 3 i0 (.int .i64 0) 1 8 Try.underlying24 hi hz0 hz1 hz2 rfl (by decide) _ _ _ rfl SQ5.out.o3 ⟨wr.heap.size, 0, none⟩ 1 1 [.int .i64 er] rfl rfl (one_new _ _ _) (by simp [Value.oneCell']) (by unfold maxLen; omega) (by omega) SQ5.out.bel.size (by omega) ?_))
            intro ov' w4 hown' hgrow hwhere
            rw [HER.out, ← ils_snoc R j] at hown'
            have SQ6 : Hid (Sf w w4 (.slice (some ⟨zb, 0, none⟩) M zc) ov' M (j + 1) X R) := SQ5.out.grown hown' hgrow (by rw [show (wr.alloc (.cells #[.int .i64 er] 3)).heap.size = wr.heap.size + 1 by simp]; exact hwhere)
            clear hown' hgrow hwhere SQ5
            go_wp2
            go_roundw
            case rel => exact ⟨j + 1, a + d, by go_num, by omega, ⟨by have := HM.out.1; rw [Nat.mul_succ]; omega, by have := HM.out.1; rw [Nat.mul_succ]; omega⟩, SQ6.out⟩
            case measure => simp [intOf]; omega
        · have hR := FIN.out (.inl (by omega))
          have SQ : Hid (Sf w wr (.slice (some ⟨zb, 0, none⟩) M zc) u10 M j X R) := hrel.out
          obtain ⟨er, her⟩ : ∃ er, er = dts f (bk X a) k := ⟨_, rfl⟩
          have HER : Hid (er = R j) := her.trans hR
          rw [← her]
          clear her hrel hR FIN
          have SQ5 : Hid (Sf w (wr.alloc (.cells #[.int .i64 er] 3)) (.slice (some ⟨zb, 0, none⟩) M zc) u10 M j X R) := SQ.out.below (below_one wr (.cells #[.int .i64 er] 3))
          clear SQ SF0
          go_wp2_with (first | (at_builtin; refine wpList_app _ rfl _ _ 24 rfl w.heap.size 3 i0 (.int .i64 0) 1 8 Try.underlying24 hi hz0 hz1 hz2 rfl (by decide) _ _ _ rfl SQ5.out.o3 ⟨wr.heap.size, 0, none⟩ 1 1 [.int .i64 er] rfl rfl (one_new _ _ _) (by simp [Value.oneCell']) (by unfold maxLen; omega) (by omega) SQ5.out.bel.size (by omega) ?_))
          intro ov' w4 hown' hgrow hwhere
          rw [HER.out, ← ils_snoc R j] at hown'
          have SQ6 : Hid (Sf w w4 (.slice (some ⟨zb, 0, none⟩) M zc) ov' M (j + 1) X R) := SQ5.out.grown hown' hgrow (by rw [show (wr.alloc (.cells #[.int .i64 er] 3)).heap.size = wr.heap.size + 1 by simp]; exact hwhere)
          clear hown' hgrow hwhere SQ5
          go_wp2
          go_roundw
          case rel => exact ⟨j + 1, a + d, by go_num, by omega, ⟨by have := HM.out.1; rw [Nat.mul_succ]; omega, by have := HM.out.1; rw [Nat.mul_succ]; omega⟩, SQ6.out⟩
          case measure => simp [intOf]; omega
    · have hj2 : dN M d 0 = j := dN_of (by omega) (by have := HM.out.1; omega) (by have := HM.out.2; omega)
      have HF9 : Hid (wr.ownsRow w.heap.size 3 1 u10 (dN M d 0) (ils (raF n u d f xs) (dN M d 0)) ∧ Below w.heap.size w wr) := by
        rw [hj2, ← HRR.out]; exact ⟨hrel.out.2.o3, hrel.out.2.bel⟩
      clear hrel hj2
      go_wp2
      go_ret2
      exact ⟨_, rfl, HF9.out.1, HF9.out.2⟩

set_option maxHeartbeats 2000000 in
theorem sRat_bad {w : World} {lv tv : Value} {N n : Nat} {xs f : Nat → Int} {u d : Int} (hl : Il w lv N xs) (ht : Il w tv n f) (hN : N ≤ 1048576) (hn : n ≤ 1048576) (h : ¬ GRa N n xs f u d) (ys : Nat → Int) :
    Calls Try.prog 7 #[lv, tv, .int .i64 u, .int .i64 d] w fun e w' => Pst w w' e 0 ys false := by
  have i1 := sSig_any (hl.below (below_one w (.cells #[] 3))) hN
  have i2 := sWth_any (hl.below (below_one w (.cells #[] 3))) hN (M := 1000000) (by omega)
  have i3 := sTaps_any (ht.below (below_one w (.cells #[] 3))) hn
  have i4 := sRte_any u
  have i5 := sRte_any d
  obtain ⟨ao, cap, rfl, hcap, hc⟩ := hl
  obtain ⟨ao2, cap2, rfl, hcap2, hc2⟩ := ht
  clear hc hc2
  by_cases c1 : Sig N xs
  · rw [decide_eq_true c1] at i1
    by_cases c2 : Wth 1000000 N xs
    · rw [decide_eq_true c2] at i2
      by_cases c3 : Tp n f
      · rw [decide_eq_true c3] at i3
        by_cases c4 : Rte u
        · rw [decide_eq_true c4] at i4
          rw [decide_eq_false (fun c5 => h ⟨⟨c1, c2⟩, c3, c4, c5⟩)] at i5
          clear h c1 c2 c3
          go_enter Try.func7, Try.ntmps7
          go_wp2_with (first | (go_at_call 23; (with_reducible refine (i1).mono ?_); rintro e w' ⟨rfl, hw⟩; obtain rfl := hw.symm) | (go_at_call 24; (with_reducible refine (i2).mono ?_); rintro e w' ⟨rfl, hw⟩; obtain rfl := hw.symm) | (go_at_call 25; (with_reducible refine (i3).mono ?_); rintro e w' ⟨rfl, hw⟩; obtain rfl := hw.symm) | (go_at_call 26; (with_reducible refine (i4 _).mono ?_); rintro e w' ⟨rfl, hw⟩; obtain rfl := hw.symm) | (go_at_call 26; (with_reducible refine (i5 _).mono ?_); rintro e w' ⟨rfl, hw⟩; obtain rfl := hw.symm))
          go_ret2
          exact ⟨_, rfl, own_empty w 3 1, below_one _ _⟩
        · rw [decide_eq_false c4] at i4
          clear h c1 c2 c3
          clear i5
          go_enter Try.func7, Try.ntmps7
          go_wp2_with (first | (go_at_call 23; (with_reducible refine (i1).mono ?_); rintro e w' ⟨rfl, hw⟩; obtain rfl := hw.symm) | (go_at_call 24; (with_reducible refine (i2).mono ?_); rintro e w' ⟨rfl, hw⟩; obtain rfl := hw.symm) | (go_at_call 25; (with_reducible refine (i3).mono ?_); rintro e w' ⟨rfl, hw⟩; obtain rfl := hw.symm) | (go_at_call 26; (with_reducible refine (i4 _).mono ?_); rintro e w' ⟨rfl, hw⟩; obtain rfl := hw.symm))
          go_ret2
          exact ⟨_, rfl, own_empty w 3 1, below_one _ _⟩
      · rw [decide_eq_false c3] at i3
        clear h c1 c2 c3
        clear i4 i5
        go_enter Try.func7, Try.ntmps7
        go_wp2_with (first | (go_at_call 23; (with_reducible refine (i1).mono ?_); rintro e w' ⟨rfl, hw⟩; obtain rfl := hw.symm) | (go_at_call 24; (with_reducible refine (i2).mono ?_); rintro e w' ⟨rfl, hw⟩; obtain rfl := hw.symm) | (go_at_call 25; (with_reducible refine (i3).mono ?_); rintro e w' ⟨rfl, hw⟩; obtain rfl := hw.symm))
        go_ret2
        exact ⟨_, rfl, own_empty w 3 1, below_one _ _⟩
    · rw [decide_eq_false c2] at i2
      clear h c1 c2
      clear i3 i4 i5
      go_enter Try.func7, Try.ntmps7
      go_wp2_with (first | (go_at_call 23; (with_reducible refine (i1).mono ?_); rintro e w' ⟨rfl, hw⟩; obtain rfl := hw.symm) | (go_at_call 24; (with_reducible refine (i2).mono ?_); rintro e w' ⟨rfl, hw⟩; obtain rfl := hw.symm))
      go_ret2
      exact ⟨_, rfl, own_empty w 3 1, below_one _ _⟩
  · rw [decide_eq_false c1] at i1
    clear h c1
    clear i2 i3 i4 i5
    go_enter Try.func7, Try.ntmps7
    go_wp2_with (first | (go_at_call 23; (with_reducible refine (i1).mono ?_); rintro e w' ⟨rfl, hw⟩; obtain rfl := hw.symm))
    go_ret2
    exact ⟨_, rfl, own_empty w 3 1, below_one _ _⟩
set_option maxHeartbeats 2000000 in
theorem iRat_bad {w : World} {lv tv : Value} {N n : Nat} {xs f : Nat → Int} {u d : Int} (hl : Il w lv N xs) (ht : Il w tv n f) (hN : N ≤ 1048576) (hn : n ≤ 1048576) (h : ¬ GRa N n xs f u d) (ys : Nat → Int) :
    Calls Try.prog 6 #[lv, tv, .int .i64 u, .int .i64 d] w fun e w' => Pst w w' e 0 ys false := by
  have i1 := iMd_any hl hN
  have i2 := iTaps_any ht hn
  have i3 := iRte_any u
  have i4 := iRte_any d
  obtain ⟨ao, cap, rfl, hcap, hc⟩ := hl
  obtain ⟨ao2, cap2, rfl, hcap2, hc2⟩ := ht
  clear hc hc2
  by_cases c1 : Md N xs
  · rw [decide_eq_true c1] at i1
    by_cases c2 : Tp n f
    · rw [decide_eq_true c2] at i2
      by_cases c3 : Rte u
      · rw [decide_eq_true c3] at i3
        rw [decide_eq_false (fun c4 => h ⟨c1, c2, c3, c4⟩)] at i4
        clear h c1 c2
        go_enter Try.func6, Try.ntmps6
        go_wp2_with (first | (go_at_call 17; (with_reducible refine (i1).mono ?_); rintro e w' ⟨rfl, hw⟩; obtain rfl := hw.symm) | (go_at_call 18; (with_reducible refine (i2).mono ?_); rintro e w' ⟨rfl, hw⟩; obtain rfl := hw.symm) | (go_at_call 19; (with_reducible refine (i3 _).mono ?_); rintro e w' ⟨rfl, hw⟩; obtain rfl := hw.symm) | (go_at_call 19; (with_reducible refine (i4 _).mono ?_); rintro e w' ⟨rfl, hw⟩; obtain rfl := hw.symm))
        go_ret2
        exact ⟨_, rfl, own_empty w 3 1, below_one _ _⟩
      · rw [decide_eq_false c3] at i3
        clear h c1 c2
        clear i4
        go_enter Try.func6, Try.ntmps6
        go_wp2_with (first | (go_at_call 17; (with_reducible refine (i1).mono ?_); rintro e w' ⟨rfl, hw⟩; obtain rfl := hw.symm) | (go_at_call 18; (with_reducible refine (i2).mono ?_); rintro e w' ⟨rfl, hw⟩; obtain rfl := hw.symm) | (go_at_call 19; (with_reducible refine (i3 _).mono ?_); rintro e w' ⟨rfl, hw⟩; obtain rfl := hw.symm))
        go_ret2
        exact ⟨_, rfl, own_empty w 3 1, below_one _ _⟩
    · rw [decide_eq_false c2] at i2
      clear h c1 c2
      clear i3 i4
      go_enter Try.func6, Try.ntmps6
      go_wp2_with (first | (go_at_call 17; (with_reducible refine (i1).mono ?_); rintro e w' ⟨rfl, hw⟩; obtain rfl := hw.symm) | (go_at_call 18; (with_reducible refine (i2).mono ?_); rintro e w' ⟨rfl, hw⟩; obtain rfl := hw.symm))
      go_ret2
      exact ⟨_, rfl, own_empty w 3 1, below_one _ _⟩
  · rw [decide_eq_false c1] at i1
    clear h c1
    clear i2 i3 i4
    go_enter Try.func6, Try.ntmps6
    go_wp2_with (first | (go_at_call 17; (with_reducible refine (i1).mono ?_); rintro e w' ⟨rfl, hw⟩; obtain rfl := hw.symm))
    go_ret2
    exact ⟨_, rfl, own_empty w 3 1, below_one _ _⟩
end Go.Proofs.Ytgamambcbaobnaa
