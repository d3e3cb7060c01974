/- Fir: the model. -/
import Derived.Test.YtnhkiknmbjaafaaFJ
namespace Go.Proofs.Ytnhkiknmbjaafaa
open Go.RowKit

/-- Taps for the model. -/
theorem sTaps_any {w : World} {v : Value} {n : Nat} {f : Nat → Int} (hv : Il w v n f) (hn : n ≤ 1048576) : Calls Try.prog 26 #[v] w fun e w' => e = .returned (.bool (decide ((1 ≤ n ∧ n ≤ 64) ∧ Wth 1000000 n f))) ∧ w' = w := by
  have i1 := in_any (n : Int) 1 64
  have i2 := sWth_any hv hn (M := 1000000) (by omega)
  obtain ⟨ao, cap, rfl, _, hc⟩ := hv
  clear hc
  obtain ⟨d, hd⟩ : ∃ d, d = decide (Wth 1000000 n f) := ⟨_, rfl⟩
  rw [← hd] at i2
  have HD : Hid (d = decide (Wth 1000000 n f)) := hd
  clear hd
  by_cases h1 : 1 ≤ n ∧ n ≤ 64
  · rw [decide_eq_true (show (1 : Int) ≤ (n : Int) ∧ (n : Int) ≤ 64 by omega)] at i1
    go_enter Try.func26, Try.ntmps26
    go_wp2_with (first
      | (go_at_call 21; (with_reducible refine (i1 _).mono ?_); rintro e w' ⟨rfl, hw⟩; obtain rfl := hw.symm)
      | (go_at_call 20; (with_reducible refine i2.mono ?_); rintro e w' ⟨rfl, hw⟩; obtain rfl := hw.symm))
    go_ret
    exact ⟨congrArg (fun z => Ending.returned (.bool z)) (by rw [HD.out]; exact decide_eq_decide.2 ⟨fun h => ⟨h1, h⟩, fun h => h.2⟩), rfl⟩
  · rw [decide_eq_false (show ¬ ((1 : Int) ≤ (n : Int) ∧ (n : Int) ≤ 64) by omega)] at i1
    clear i2
    go_enter Try.func26, Try.ntmps26
    go_wp2_with (first
      | (go_at_call 21; (with_reducible refine (i1 _).mono ?_); rintro e w' ⟨rfl, hw⟩; obtain rfl := hw.symm))
    go_ret
    exact ⟨congrArg (fun z => Ending.returned (.bool z)) (decide_eq_false (fun h => h1 h.1)).symm, rfl⟩

/-- A row put behind another one, in a region that draws its order. -/
theorem wp_appw {w : World} {o : Oper} {a : Act} {K : Act → World → Prop} {Q : Exit → Act → World → Prop} (s x : Operand)
    (ho : o.op = .call { callee := .builtin .append, args := #[s, x], argTypes := #[24, 24] }) (base B2 : Nat) (v xv : Value) (n m : Nat) (xs : List Value) (ys : Nat → Int) (hs : a.eval s = v) (hx : a.eval x = xv)
    (hown : w.ownsRow base 3 1 v n xs) (hsrc : w.ownsRow B2 3 1 xv m (ils ys m)) (hnm : n + m ≤ 1048576) (hbase : base ≤ w.heap.size)
    (h : ∀ v' w', w'.ownsRow base 3 1 v' (n + m) (xs ++ ils ys m) → w.grownBy w' v.ownBlock → K (a.put o.dst v') w') : o.wp Try.prog a w K Q := by
  obtain ⟨i0, hi, hz0, hz1, hz2⟩ := info_parts Try.info3
  rcases hsrc.2 with ⟨rfl, rfl⟩ | ⟨g, cap, cur, rfl, hb, hg, hcap, _⟩
  · have hr := run_append_owned_none (P := Try.prog) w base 24 o.type 3 i0 1 Try.underlying24 hi v n xs hown
    unfold Oper.wp execOp
    simp only [ho, resolve, invoke, builtin, Sem.run_bind, Sem.run_pure, Result.andThen_ok, List.map_toArray, List.map_cons, List.map_nil, hs, hx, hr]
    exact h v w (by simpa [ils] using hown) (grown_refl _ _)
  · exact wp_appo s x ho base v n xs hs hown ⟨g, 0, none⟩ m cap (ils ys m) hx (by rw [ils_length, Nat.mul_one]) (hsrc.cells rfl) (ils_one _ _) hnm hbase h

/-- What stands while the model filters. -/
structure Sf (w W : World) (zv ov : Value) (m k : Nat) (z g : Nat → Int) : Prop where
  o2 : W.ownsRow w.heap.size 3 1 zv m (ils z m)
  o3 : W.ownsRow w.heap.size 3 1 ov k (ils g k)
  a3 : Apart zv ov
  bel : Below w.heap.size w W

theorem Sf.below {w W W' : World} {zv ov : Value} {m k : Nat} {z g : Nat → Int} (h : Sf w W zv ov m k z g) (hb : Below W.heap.size W W') : Sf w W' zv ov m k z g :=
  ⟨own_below h.o2 hb, own_below h.o3 hb, h.a3, bstep h.bel hb⟩

/-- The samples made anew. -/
theorem Sf.come {w W W' : World} {zv ov zv' : Value} {m m' k H : Nat} {z z' g : Nat → Int} (h : Sf w W zv ov m k z g) (hb : Below W.heap.size W W') (hH : W.heap.size ≤ H) (ho : W'.ownsRow H 3 1 zv' m' (ils z' m')) : Sf w W' zv' ov m' k z' g := by
  have lo := h.bel.size
  refine ⟨own_base ho (by omega), own_below h.o3 hb, ?_, bstep h.bel hb⟩
  cases e0 : zv'.ownBlock with
  | none => exact .inl e0
  | some q =>
    refine .inr (fun e => ?_)
    rw [e0] at e
    have a := (World.ownsRow.lt ho q e0).1
    have b := (World.ownsRow.lt h.o3 q e.symm).2
    omega

/-- The answer made longer. -/
theorem Sf.grown {w W W' : World} {zv ov ov' : Value} {m k : Nat} {z g : Nat → Int} (h : Sf w W zv ov m k z g) (ho : W'.ownsRow w.heap.size 3 1 ov' (k + 1) (ils g (k + 1))) (hg : W.grownBy W' ov.ownBlock) (hk : ov'.ownBlock = ov.ownBlock ∨ (ov'.ownBlock = some W.heap.size ∧ Below W.heap.size W W')) : Sf w W' zv ov' m (k + 1) z g :=
  ⟨own_grown h.o2 hg h.a3, ho, apart_app h.o2 h.a3 (hk.imp id And.left), grown_below h.bel (Nat.le_refl _) h.o3 hg⟩

/-- The oldest left out. -/
theorem Sf.cut {w W : World} {ov : Value} {g c n m k : Nat} {z gg : Nat → Int} (h : Sf w W (.slice (some ⟨g, 0, none⟩) n c) ov n k z gg) (hm : m ≤ n) : Sf w W (.slice (some ⟨g, 0, none⟩) m c) ov m k z gg :=
  ⟨own_cut h.o2 hm, h.o3, h.a3, h.bel⟩

set_option maxRecDepth 20000 in
set_option maxHeartbeats 8000000 in
theorem sFir_good {w : World} {B : Nat} {tv sv lv : Value} {n m N : Nat} {f st xs : Nat → Int} (ht : Il w tv n f) (hs : w.ownsRow B 3 1 sv m (ils st m)) (hl : Il w lv N xs) (h : GF n m N f st xs) :
    Calls Try.prog 10 #[tv, sv, lv] w fun e w' => P3 w w' e N m (fir n f st xs) (pst st xs N) true := by
  obtain ⟨i0, hi, hz0, hz1, hz2⟩ := info_parts Try.info3
  obtain ⟨⟨⟨⟨h1, h2⟩, h3⟩, h4, h5⟩, h6⟩ := h
  have hN := h6.1
  have i1 := sTaps_any ht (by omega)
  rw [decide_eq_true (show (1 ≤ n ∧ n ≤ 64) ∧ Wth 1000000 n f from ⟨⟨h1, h2⟩, h3⟩)] at i1
  have i2 := sSig_any hl (by omega)
  rw [decide_eq_true h6] at i2
  have i3 := sSig_any (il_of_own hs) (by omega)
  rw [decide_eq_true h4] at i3
  have HT : Hid (Il w tv n f) := ht
  have HS : Hid (w.ownsRow B 3 1 sv m (ils st m)) := hs
  have HL : Hid (Il w lv N xs) := hl
  have H3 : Hid (Wth 1000000 n f) := h3
  have H4 : Hid (Wth 1000000000 m st) := h4.2
  have H6 : Hid (Wth 1000000000 N xs) := h6.2
  obtain ⟨so, sc, rfl, _, hc1⟩ := il_of_own hs
  obtain ⟨ao, tc, rfl, _, hc2⟩ := ht
  obtain ⟨lo, lc, rfl, _, hc3⟩ := hl
  have HC2 : Hid (0 < n → ∃ b off, ao = some ⟨b, off, none⟩ ∧ b < w.heap.size ∧ ∀ k, k < n → w.cell? ⟨b, off + k, none⟩ = some (.int .i64 (f k))) := hc2
  have HC3 : Hid (0 < N → ∃ b off, lo = some ⟨b, off, none⟩ ∧ b < w.heap.size ∧ ∀ k, k < N → w.cell? ⟨b, off + k, none⟩ = some (.int .i64 (xs k))) := hc3
  clear hc1 hc2 hc3 hs h3 h4 h6
  have e5 : (n : Int) - 1 = (m : Int) := by omega
  have e6 : ((m : Int) != (m : Int)) = false := by simp
  have HV : Hid ((w.alloc (.cells #[] 3)).ownsRow B 3 1 (.slice so m sc) m (ils st m)) := own_below HS.out (below_one _ _)
  have HE : Hid ((w.alloc (.cells #[] 3)).ownsRow w.heap.size 3 1 (.slice (some ⟨w.heap.size, 0, none⟩) 0 0) 0 []) := own_empty w 3 1
  have BE : Hid (Below w.heap.size w (w.alloc (.cells #[] 3))) := below_one _ _
  go_enter Try.func10, Try.ntmps10
  go_wp2_with (first
    | (go_at_call 26; (with_reducible refine i1.mono ?_); rintro e w' ⟨rfl, hw⟩; obtain rfl := hw.symm)
    | (go_at_call 11; (with_reducible refine i2.mono ?_); rintro e w' ⟨rfl, hw⟩; obtain rfl := hw.symm)
    | (go_at_call 11; (with_reducible refine i3.mono ?_); rintro e w' ⟨rfl, hw⟩; obtain rfl := hw.symm)
    | (at_builtin; refine wpList_appo rfl _ _ rfl w.heap.size B _ _ _ _ _ _ rfl rfl HE.out HV.out (by omega) BE.out.size ?_))
  intro zv0 w1 ho hgr
  have O1 : Hid (w1.ownsRow w.heap.size 3 1 zv0 m (ils st m)) := by show w1.ownsRow w.heap.size 3 1 zv0 m (ils st m); simpa using ho
  have B1 : Hid (Below w.heap.size w w1) := grown_below BE.out (Nat.le_refl _) HE.out hgr
  clear ho hgr HE BE HV
  have S0 : Hid (Sf w (w1.alloc (.cells #[] 3)) zv0 (.slice (some ⟨w1.heap.size, 0, none⟩) 0 0) m 0 (pst st xs 0) (fir n f st xs)) := by
    have bA := below_one w1 (.cells #[] 3)
    refine ⟨own_below O1.out bA, own_base (own_empty w1 3 1) B1.out.size, ?_, bstep B1.out bA⟩
    refine .inr (fun e => ?_)
    have := (World.ownsRow.lt O1.out w1.heap.size (by rw [e]; rfl)).2
    omega
  go_wp2
  generalize (w1.alloc (.cells #[] 3)) = W0 at S0 ⊢
  generalize w1.heap.size = q1 at S0 ⊢
  clear O1 B1 i1 i2 i3
  go_loopw [9, 10, 11, 12, 13, 14] (fun zv ov i _ _ _ wr => ∃ k : Nat, i = .int .i64 k ∧ k ≤ N ∧ Hid (Sf w wr zv ov m k (pst st xs k) (fir n f st xs))) (fun _ _ i _ _ _ _ => N - (intOf i).toNat)
  case atStart => exact ⟨0, rfl, by omega, S0.out⟩
  case round =>
    obtain ⟨k, rfl, hk, hrel⟩ := hrel
    by_cases h1 : k < N
    · have HF : Hid (fir n f st xs k = dts f (shf (xs k) (pst st xs k)) n) := rfl
      have HP : Hid (pst st xs (k + 1) = shf (xs k) (pst st xs k)) := rfl
      have HZ : Hid (Wth 1000000000 n (shf (xs k) (pst st xs k))) := fun i hi => by
        unfold shf
        by_cases e : i = 0
        · rw [if_pos e]; exact H6.out k h1
        · rw [if_neg e]; exact pst_wth H4.out H6.out (by omega) (i - 1) (by omega)
      obtain ⟨bl, of, rfl, C1L', hcell⟩ := HC3.out (by omega)
      obtain ⟨bt, ot, rfl, C2L', hcell2⟩ := HC2.out (by omega)
      have T2 : Hid (∀ k, k < n → w.cell? ⟨bt, ot + k, none⟩ = some (.int .i64 (f k))) := hcell2
      have C1 := (hrel.out.bel.cell (p := ⟨bl, of + k, none⟩) C1L').trans (hcell k h1)
      have SF0 : Hid (Sf w wr u9 u10 m k (pst st xs k) (fir n f st xs)) := hrel.out
      have bx := H6.out k h1
      clear hcell hcell2 hrel
      generalize pst st xs k = zf at SF0 HP HZ HF
      generalize xs k = xk at C1 bx HZ HP HF
      have bA := below_one wr (.cells #[.int .i64 xk] 3)
      have OW : Hid ((wr.alloc (.cells #[.int .i64 xk] 3)).ownsRow wr.heap.size 3 1 (.slice (some ⟨wr.heap.size, 0, none⟩) 1 1) 1 [.int .i64 xk]) := one_own wr xk
      have OZ : Hid ((wr.alloc (.cells #[.int .i64 xk] 3)).ownsRow w.heap.size 3 1 u9 m (ils zf m)) := own_below SF0.out.o2 bA
      have LA : Hid (Below wr.heap.size wr (wr.alloc (.cells #[.int .i64 xk] 3))) := bA
      have N1 : Hid ([Value.int .i64 xk] ++ ils zf m = ils (shf xk zf) n) := by show [Value.int .i64 xk] ++ ils zf m = ils (shf xk zf) n; rw [show m = n - 1 by omega]; exact ils_shf xk zf (by omega)
      have HN2 : Hid (1 + m = n) := by show 1 + m = n; omega
      clear bA
      go_wp2_with (first | (at_builtin; refine wpList_appo rfl _ _ rfl wr.heap.size w.heap.size _ _ _ _ _ _ rfl rfl OW.out OZ.out (by omega) LA.out.size ?_))
      intro zv' W1 ho hg
      rw [HN2.out] at ho
      replace ho : W1.ownsRow wr.heap.size 3 1 zv' n (ils (shf xk zf) n) := by rw [← N1.out]; exact ho
      have SF1 : Hid (Sf w W1 zv' u10 n k (shf xk zf) (fir n f st xs)) := SF0.out.come (grown_below LA.out (Nat.le_refl _) OW.out hg) (Nat.le_refl _) ho
      clear ho hg OW OZ LA N1 HN2 SF0 C1
      obtain ⟨zb, zc, rfl, hzc⟩ : ∃ zb zc, zv' = .slice (some ⟨zb, 0, none⟩) n zc ∧ n ≤ zc := by
        rcases SF1.out.o2.2 with ⟨_, e⟩ | ⟨zb, zc, cur, e, _, _, e2, _⟩
        · omega
        · exact ⟨zb, zc, e, e2⟩
      generalize shf xk zf = zz at SF1 HZ HP HF
      go_wp2
      go_loopw [13, 14] (fun y kk wr2 => ∃ j : Nat, kk = .int .i64 j ∧ y = .int .i64 (dts f zz j) ∧ j ≤ n ∧ Hid (Sf w wr2 (.slice (some ⟨zb, 0, none⟩) n zc) u10 n k zz (fir n f st xs))) (fun _ kk _ => n - (intOf kk).toNat)
      case atStart => exact ⟨0, rfl, rfl, by omega, SF1.out⟩
      case round =>
        obtain ⟨j, rfl, rfl, hj, hrel⟩ := hrel
        by_cases h2 : j < n
        · have d1 := (hrel.out.bel.cell (p := ⟨bt, ot + j, none⟩) C2L').trans (T2.out j h2)
          have d2 := World.ownsRow.cellAt hrel.out.o2 j (by omega)
          rw [ils_get h2] at d2
          have m0 := mul_bounds (H3.out j h2) (HZ.out j h2) (by omega) (by omega)
          have pb := dtb H3.out HZ.out j (by omega)
          have ed : dts f zz j + f j * zz j = dts f zz (j + 1) := rfl
          have SQ : Hid (Sf w wr (.slice (some ⟨zb, 0, none⟩) n zc) u10 n k zz (fir n f st xs)) := hrel.out
          clear hrel
          have bp2 : -64000000000000000 ≤ dts f zz j ∧ dts f zz j ≤ 64000000000000000 := by omega
          generalize dts f zz (j + 1) = y1 at ed
          have Y1 : Hid (dts f zz j + f j * zz j = y1) := ed
          go_upto_region 13 with fail
          go_quiet (fail)
          have SQ2 : Hid (Sf w (wr.drewN nq) (.slice (some ⟨zb, 0, none⟩) n zc) u10 n k zz (fir n f st xs)) := SQ.out.below (drewN_below _ _)
          clear SQ d1 d2 m0 pb ed
          generalize wr.drewN nq = W2 at SQ2 ⊢
          go_wp2
          go_roundw
          case rel => exact ⟨j + 1, by go_num, by rw [← Y1.out]; rfl, by omega, SQ2.out⟩
          case measure => simp [intOf]; omega
        · obtain rfl : n = j := by omega
          have SQ : Hid (Sf w wr (.slice (some ⟨zb, 0, none⟩) n zc) u10 n k zz (fir n f st xs)) := hrel.out
          clear hrel
          obtain ⟨er, her⟩ : ∃ er, er = dts f zz n := ⟨_, rfl⟩
          have HER : Hid (er = fir n f st xs k) := her.trans HF.out.symm
          rw [← her]
          clear her
          have hb3 := below_one wr (.cells #[.int .i64 er] 3)
          have SQ5 : Hid (Sf w (wr.alloc (.cells #[.int .i64 er] 3)) (.slice (some ⟨zb, 0, none⟩) n zc) u10 n k zz (fir n f st xs)) := SQ.out.below hb3
          clear hb3 SQ SF1
          go_wp2_with (first | (at_builtin; refine wpList_app _ rfl _ _ 24 rfl w.heap.size 3 i0 (.int .i64 0) 1 8 Try.underlying24 hi hz0 hz1 hz2 rfl (by decide) _ _ _ rfl SQ5.out.o3 ⟨wr.heap.size, 0, none⟩ 1 1 [.int .i64 er] rfl rfl (one_new _ _ _) (by simp [Value.oneCell']) (by unfold maxLen; omega) (by omega) SQ5.out.bel.size (by omega) ?_))
          intro ov' w4 hown' hgrow hwhere
          rw [HER.out, ← ils_snoc (fir n f st xs) k] at hown'
          have SQ6 : Hid (Sf w w4 (.slice (some ⟨zb, 0, none⟩) m zc) ov' m (k + 1) (pst st xs (k + 1)) (fir n f st xs)) := by
            show Sf w w4 (.slice (some ⟨zb, 0, none⟩) m zc) ov' m (k + 1) (pst st xs (k + 1)) (fir n f st xs)
            rw [HP.out]
            exact (SQ5.out.grown hown' hgrow (by rw [show (wr.alloc (.cells #[.int .i64 er] 3)).heap.size = wr.heap.size + 1 by simp]; exact hwhere)).cut (by omega)
          clear hown' hgrow hwhere SQ5
          have e7 : m ≤ zc := by omega
          go_wp2
          go_roundw
          case rel => exact ⟨k + 1, by go_num, by omega, SQ6.out⟩
          case measure => simp [intOf]; omega
    · obtain rfl : N = k := by omega
      have SQ : Hid (Sf w wr u9 u10 m N (pst st xs N) (fir n f st xs)) := hrel.out
      clear hrel
      have bA := below_one wr (.cells #[] 3)
      have HE : Hid ((wr.alloc (.cells #[] 3)).ownsRow wr.heap.size 3 1 (.slice (some ⟨wr.heap.size, 0, none⟩) 0 0) 0 []) := own_empty wr 3 1
      have SQ2 : Hid (Sf w (wr.alloc (.cells #[] 3)) u9 u10 m N (pst st xs N) (fir n f st xs)) := SQ.out.below bA
      have BE : Hid (Below wr.heap.size wr (wr.alloc (.cells #[] 3))) := bA
      clear bA
      go_wp2_with (first | (at_builtin; refine wpList_appo rfl _ _ rfl wr.heap.size w.heap.size _ _ _ _ _ _ rfl rfl HE.out SQ2.out.o2 (by omega) BE.out.size ?_))
      intro pv w5 ho hg
      have BF : Below wr.heap.size wr w5 := grown_below BE.out (Nat.le_refl _) HE.out hg
      have O5 : Hid (w5.ownsRow wr.heap.size 3 1 pv m (ils (pst st xs N) m)) := by show w5.ownsRow wr.heap.size 3 1 pv m (ils (pst st xs N) m); simpa using ho
      have SQ3 : Hid (Sf w w5 pv u10 m N (pst st xs N) (fir n f st xs)) := SQ.out.come BF (Nat.le_refl _) O5.out
      clear ho hg BF HE BE O5 SQ SQ2
      go_wp2
      go_ret3
      exact ⟨_, _, rfl, SQ3.out.o3, SQ3.out.o2, apart_symm SQ3.out.a3, SQ3.out.bel⟩
end Go.Proofs.Ytnhkiknmbjaafaa
