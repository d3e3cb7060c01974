/- Sums of the program: QO. -/
import Derived.Test.YtonjgielpcofeaaQL
namespace Go.Proofs.Ytonjgielpcofeaa
open Go.RowKit

set_option maxHeartbeats 2000000 in
theorem iAdd_za (a2 a3 a4 b1 b2 : Int) (ha : Qok 0 a2 a3 a4) (hb : Qok b1 b2 a3 a4) (h2 : ¬ b1 = 0) (w : World) : Calls Try.prog 10 #[.agg #[.int .i64 0, .int .i64 a2, .int .i64 a3, .int .i64 a4], .agg #[.int .i64 b1, .int .i64 b2, .int .i64 a3, .int .i64 a4]] w fun e w' => e = .returned (.tuple #[.agg #[.int .i64 (aR 0 a2 a3 a4 b1 b2 a3 a4).1, .int .i64 (aR 0 a2 a3 a4 b1 b2 a3 a4).2.1, .int .i64 (aR 0 a2 a3 a4 b1 b2 a3 a4).2.2.1, .int .i64 (aR 0 a2 a3 a4 b1 b2 a3 a4).2.2.2.1], .bool (aR 0 a2 a3 a4 b1 b2 a3 a4).2.2.2.2]) ∧ Below w.heap.size w w' := by
  have B0 : Hid (Below w.heap.size w ((((w).alloc (.cells #[.int .i64 0, .int .i64 a2, .int .i64 a3, .int .i64 a4] 25)).alloc (.cells #[.int .i64 b1, .int .i64 b2, .int .i64 a3, .int .i64 a4] 25)).alloc (.cells #[.int .i64 0, .int .i64 0, .int .i64 0, .int .i64 0] 25))) := bstep (bstep (below_one w _) (below_one _ _)) (below_one _ _)
  have RA : Hid (R4 ((((w).alloc (.cells #[.int .i64 0, .int .i64 a2, .int .i64 a3, .int .i64 a4] 25)).alloc (.cells #[.int .i64 b1, .int .i64 b2, .int .i64 a3, .int .i64 a4] 25)).alloc (.cells #[.int .i64 0, .int .i64 0, .int .i64 0, .int .i64 0] 25)) w.heap.size 0 a2 a3 a4) := ((R4.new w 25 0 a2 a3 a4).call (below_one _ _)).call (below_one _ _)
  have RB : Hid (R4 ((((w).alloc (.cells #[.int .i64 0, .int .i64 a2, .int .i64 a3, .int .i64 a4] 25)).alloc (.cells #[.int .i64 b1, .int .i64 b2, .int .i64 a3, .int .i64 a4] 25)).alloc (.cells #[.int .i64 0, .int .i64 0, .int .i64 0, .int .i64 0] 25)) (w.heap.size + 1) b1 b2 a3 a4) := by have h := (R4.new (w.alloc (.cells #[.int .i64 0, .int .i64 a2, .int .i64 a3, .int .i64 a4] 25)) 25 b1 b2 a3 a4).call (below_one _ (.cells #[.int .i64 0, .int .i64 0, .int .i64 0, .int .i64 0] 25)); simp only [World.heap_size_alloc] at h; exact h
  have RZ : Hid (R4 ((((w).alloc (.cells #[.int .i64 0, .int .i64 a2, .int .i64 a3, .int .i64 a4] 25)).alloc (.cells #[.int .i64 b1, .int .i64 b2, .int .i64 a3, .int .i64 a4] 25)).alloc (.cells #[.int .i64 0, .int .i64 0, .int .i64 0, .int .i64 0] 25)) (w.heap.size + 1 + 1) 0 0 0 0) := by have h := R4.new ((w.alloc (.cells #[.int .i64 0, .int .i64 a2, .int .i64 a3, .int .i64 a4] 25)).alloc (.cells #[.int .i64 b1, .int .i64 b2, .int .i64 a3, .int .i64 a4] 25)) 25 0 0 0 0; simp only [World.heap_size_alloc] at h; exact h
  have hda := decide_eq_true ha
  have hdb := decide_eq_true hb
  obtain ⟨ka, hka2⟩ : ∃ ka, ka = (b2 - b2 : Int).toNat := ⟨_, rfl⟩
  obtain ⟨kb, hkb2⟩ : ∃ kb, kb = (b2 - b2 : Int).toNat := ⟨_, rfl⟩
  have hka : (b2 - b2 : Int) = ka := by omega
  have hkb : (b2 - b2 : Int) = kb := by omega
  have hk9 : ka ≤ 9 := by omega
  have hl9 : kb ≤ 9 := by omega
  have hmin : True := trivial
  obtain ⟨ta, hta⟩ : ∃ ta : Int, ta = 0 * 10 ^ ka := ⟨_, rfl⟩
  obtain ⟨tb, htb⟩ : ∃ tb : Int, tb = b1 * 10 ^ kb := ⟨_, rfl⟩
  have HM : Hid ((aR 0 a2 a3 a4 b1 b2 a3 a4) = ((qn (ta + tb) b2 a3 a4), (qp (ta + tb) b2 a3 a4), (qv (ta + tb) b2 a3 a4), (qs (ta + tb) b2 a3 a4), (qd (ta + tb) b2 a3 a4))) := by
    show aR 0 a2 a3 a4 b1 b2 a3 a4 = _
    rw [hta, htb]
    have k0 : ka = 0 := by omega
    have k1 : kb = 0 := by omega
    have e : (0 * 10 ^ ka + b1 * 10 ^ kb : Int) = b1 := by rw [k0, k1]; simp
    obtain ⟨q1, q2, q3, q4, q5⟩ := q_same hb
    unfold aR
    rw [if_pos ⟨ha, hb, rfl, rfl⟩, if_pos rfl, e, q1, q2, q3, q4, q5]
  have hn1 : -1000000000 ≤ (0 : Int) ∧ (0 : Int) ≤ 1000000000 := by unfold Qok at ha; omega
  have hn2 : -1000000000 ≤ (b1 : Int) ∧ (b1 : Int) ≤ 1000000000 := by unfold Qok at hb; omega
  have u2 : -30 ≤ (a2 : Int) ∧ (a2 : Int) ≤ 30 := by unfold Qok at ha; omega
  have v2 : -30 ≤ (b2 : Int) ∧ (b2 : Int) ≤ 30 := by unfold Qok at hb; omega
  have tr1 : -1000000000000000000 ≤ ta ∧ ta ≤ 1000000000000000000 := by rw [hta]; exact ten_room hn1 hk9
  have tr2 : -1000000000000000000 ≤ tb ∧ tb ≤ 1000000000000000000 := by rw [htb]; exact ten_room hn2 hl9
  have HTA : Hid (ta = 0 * 10 ^ ka) := hta
  have HTB : Hid (tb = b1 * 10 ^ kb) := htb
  have HKA : Hid _ := hka
  have HKB : Hid _ := hkb
  clear ha hb hka hkb hka2 hkb2 hmin hta htb
  generalize (aR 0 a2 a3 a4 b1 b2 a3 a4) = R at HM ⊢
  go_enter Try.func10, Try.ntmps10
  go_wp2_with (go_at_call 16; first | ((with_reducible refine (iQok_any 0 a2 a3 a4 _).mono ?_); rintro e w2 ⟨rfl, hb⟩; have B0 : Hid (Below w.heap.size w w2) := bstep B0.out hb; have RA : Hid (R4 w2 w.heap.size 0 a2 a3 a4) := RA.out.call hb; have RB : Hid (R4 w2 (w.heap.size + 1) b1 b2 a3 a4) := RB.out.call hb; have RZ : Hid (R4 w2 (w.heap.size + 1 + 1) 0 0 0 0) := RZ.out.call hb; clear hb; (try clear x0 x1 x2 x3 y0 y1 y2 y3 z0 z1 z2 z3); obtain ⟨x0, x1, x2, x3, xf⟩ := RA.out; obtain ⟨y0, y1, y2, y3, yf⟩ := RB.out; obtain ⟨z0, z1, z2, z3, zf⟩ := RZ.out; (try clear f0 f1 f2 f3 g1 g2); have f0 := zf 0; have f1 := zf 1; have f2 := zf 2; have f3 := zf 3; have g1 := xf 1; have g2 := yf 1; clear zf xf yf; rw [hda]) | ((with_reducible refine (iQok_any b1 b2 a3 a4 _).mono ?_); rintro e w2 ⟨rfl, hb⟩; have B0 : Hid (Below w.heap.size w w2) := bstep B0.out hb; have RA : Hid (R4 w2 w.heap.size 0 a2 a3 a4) := RA.out.call hb; have RB : Hid (R4 w2 (w.heap.size + 1) b1 b2 a3 a4) := RB.out.call hb; have RZ : Hid (R4 w2 (w.heap.size + 1 + 1) 0 0 0 0) := RZ.out.call hb; clear hb; (try clear x0 x1 x2 x3 y0 y1 y2 y3 z0 z1 z2 z3); obtain ⟨x0, x1, x2, x3, xf⟩ := RA.out; obtain ⟨y0, y1, y2, y3, yf⟩ := RB.out; obtain ⟨z0, z1, z2, z3, zf⟩ := RZ.out; (try clear f0 f1 f2 f3 g1 g2); have f0 := zf 0; have f1 := zf 1; have f2 := zf 2; have f3 := zf 3; have g1 := xf 1; have g2 := yf 1; clear zf xf yf; rw [hdb]))
  have hka := HKA.out
  have hkb := HKB.out
  have RA : Hid (R4 (w2.setCell ⟨w.heap.size, 1, none⟩ (.int .i64 b2)) w.heap.size 0 b2 a3 a4) := RA.out.put1 _
  have RB : Hid (R4 (w2.setCell ⟨w.heap.size, 1, none⟩ (.int .i64 b2)) (w.heap.size + 1) b1 b2 a3 a4) := RB.out.off (by omega) _ _
  have RZ : Hid (R4 (w2.setCell ⟨w.heap.size, 1, none⟩ (.int .i64 b2)) (w.heap.size + 1 + 1) 0 0 0 0) := RZ.out.off (by omega) _ _
  have B0 : Hid (Below w.heap.size w (w2.setCell ⟨w.heap.size, 1, none⟩ (.int .i64 b2))) := B0.out.setCell (by simp <;> omega) _
  clear x0 x1 x2 x3 y0 y1 y2 y3 z0 z1 z2 z3 f0 f1 f2 f3 g1 g2
  generalize w2.setCell ⟨w.heap.size, 1, none⟩ (.int .i64 b2) = w2 at B0 RA RB RZ ⊢
  refine wp_region_any (by kernel_rfl) ?_
  change wpAny _ _ _ _ _ _ _ (World.drew _)
  have RA : Hid (R4 w2.drew w.heap.size 0 b2 a3 a4) := RA.out.drew
  have RB : Hid (R4 w2.drew (w.heap.size + 1) b1 b2 a3 a4) := RB.out.drew
  have RZ : Hid (R4 w2.drew (w.heap.size + 1 + 1) 0 0 0 0) := RZ.out.drew
  have B0 : Hid (Below w.heap.size w w2.drew) := B0.out.drew
  generalize w2.drew = w3 at B0 RA RB RZ ⊢
  refine wpI_any (I := fun X => R4 X w.heap.size 0 b2 a3 a4 ∧ R4 X (w.heap.size + 1) b1 b2 a3 a4) _ _ _ _ ?_
  refine wpI_take (i := 0) (v := ?_) rfl (by kernel_rfl) (by kernel_rfl) (by kernel_rfl) (fun _ _ _ h => h) ⟨by rfl, ?_⟩ ?_
  rotate_left
  · intro X hI; obtain ⟨c0, c1, c2, c3, _⟩ := hI.1; go_simp; with_reducible rfl
  refine wpI_take (i := 1) (v := ?_) rfl (by kernel_rfl) (by kernel_rfl) (by kernel_rfl) (fun _ _ _ h => h) ⟨by rfl, ?_⟩ ?_
  rotate_left
  · intro X _; go_simp; with_reducible rfl
  refine wpI_take (i := 3) (v := ?_) rfl (by kernel_rfl) (by kernel_rfl) (by kernel_rfl) (fun _ _ _ h => h) ⟨by rfl, ?_⟩ ?_
  rotate_left
  · intro X hI; obtain ⟨c0, c1, c2, c3, _⟩ := hI.2; go_simp; with_reducible rfl
  refine wpI_take (i := 4) (v := ?_) rfl (by kernel_rfl) (by kernel_rfl) (by kernel_rfl) (fun _ _ _ h => h) ⟨by rfl, ?_⟩ ?_
  rotate_left
  · intro X _; go_simp; with_reducible rfl
  refine wpI_take (i := 7) (v := ?_) rfl (by kernel_rfl) (by kernel_rfl) (by kernel_rfl) (fun _ _ _ h => h) ⟨by rfl, ?_⟩ ?_
  rotate_left
  · intro X _; go_simp; with_reducible rfl
  refine wpI_take (i := 8) (v := ?_) rfl (by kernel_rfl) (by kernel_rfl) (by kernel_rfl) (fun _ _ _ h => h) ⟨by rfl, ?_⟩ ?_
  rotate_left
  · intro X _; go_simp; with_reducible rfl
  refine wpI_take (i := 9) (v := ?_) rfl (by kernel_rfl) (by kernel_rfl) (by kernel_rfl) (fun _ _ _ h => h) ⟨by rfl, ?_⟩ ?_
  rotate_left
  · intro X hI; obtain ⟨c0, c1, c2, c3, _⟩ := hI.1; go_simp; with_reducible rfl
  refine wpI_take (i := 10) (v := ?_) rfl (by kernel_rfl) (by kernel_rfl) (by kernel_rfl) (fun _ _ _ h => h) ⟨by rfl, ?_⟩ ?_
  rotate_left
  · intro X _; go_simp; with_reducible rfl
  refine wpI_take (i := 11) (v := ?_) rfl (by kernel_rfl) (by kernel_rfl) (by kernel_rfl) (fun _ _ _ h => h) ⟨by rfl, ?_⟩ ?_
  rotate_left
  · intro X hI; obtain ⟨c0, c1, c2, c3, _⟩ := hI.1; go_simp; with_reducible rfl
  refine wpI_only (i := 2) rfl (by kernel_rfl) ⟨RA.out, RB.out⟩ (by rfl) ?_
  intro K hK
  go_simp
  go_wp2_with (go_at_call 24; (with_reducible refine (iOver_any 0 b2 a3 a4 b2 ka hka hk9 hn1 (by omega) _).mono ?_); rintro e w3 ⟨rfl, hb⟩; have RA : Hid (R4 w3 w.heap.size 0 b2 a3 a4) := RA.out.call hb; have RB : Hid (R4 w3 (w.heap.size + 1) b1 b2 a3 a4) := RB.out.call hb; have RZ : Hid (R4 w3 (w.heap.size + 1 + 1) 0 0 0 0) := RZ.out.call hb; have B0 : Hid (Below w.heap.size w w3) := bstep B0.out hb; clear hb; rw [← HTA.out])
  refine wpI_only (i := 5) rfl (by kernel_rfl) ⟨RA.out, RB.out⟩ (by rfl) ?_
  intro K hK
  go_simp
  go_wp2_with (go_at_call 24; (with_reducible refine (iOver_any b1 b2 a3 a4 b2 kb hkb hl9 hn2 (by omega) _).mono ?_); rintro e w3 ⟨rfl, hb⟩; have RA : Hid (R4 w3 w.heap.size 0 b2 a3 a4) := RA.out.call hb; have RB : Hid (R4 w3 (w.heap.size + 1) b1 b2 a3 a4) := RB.out.call hb; have RZ : Hid (R4 w3 (w.heap.size + 1 + 1) 0 0 0 0) := RZ.out.call hb; have B0 : Hid (Below w.heap.size w w3) := bstep B0.out hb; clear hb; rw [← HTB.out])
  have hw : IntKind.i64.wrap (ta + tb) = ta + tb := wrap_fit (by omega) (by omega)
  refine wpI_take (i := 6) (v := ?_) rfl (by kernel_rfl) (by kernel_rfl) (by kernel_rfl) (fun _ _ _ h => h) ⟨by rfl, ?_⟩ ?_
  rotate_left
  · intro X _; go_simp; with_reducible rfl
  refine wpI_take (i := 12) (v := ?_) rfl (by kernel_rfl) (by kernel_rfl) (by kernel_rfl) (fun _ _ _ h => h) ⟨by rfl, ?_⟩ ?_
  rotate_left
  · intro X _; go_simp; with_reducible rfl
  refine wpI_only (i := 13) rfl (by kernel_rfl) ⟨RA.out, RB.out⟩ (by rfl) ?_
  intro K hK
  go_simp
  go_wp2_with (go_at_call 23; (with_reducible refine (iOnly (ta + tb) b2 a3 a4 (by omega) (by omega) _).mono ?_); rintro e w3 ⟨rfl, hb⟩; have RA : Hid (R4 w3 w.heap.size 0 b2 a3 a4) := RA.out.call hb; have RB : Hid (R4 w3 (w.heap.size + 1) b1 b2 a3 a4) := RB.out.call hb; have RZ : Hid (R4 w3 (w.heap.size + 1 + 1) 0 0 0 0) := RZ.out.call hb; have B0 : Hid (Below w.heap.size w w3) := bstep B0.out hb; clear hb)
  refine wpI_take (i := 14) (v := ?_) rfl (by kernel_rfl) (by kernel_rfl) (by kernel_rfl) (fun _ _ _ h => h) ⟨by rfl, ?_⟩ ?_
  rotate_left
  · intro X _; go_simp; with_reducible rfl
  refine wpI_take (i := 15) (v := ?_) rfl (by kernel_rfl) (by kernel_rfl) (by kernel_rfl) (fun _ _ _ h => h) ⟨by rfl, ?_⟩ ?_
  rotate_left
  · intro X _; go_simp; with_reducible rfl
  refine wpI_only (i := 16) rfl (by kernel_rfl) ⟨RA.out, RB.out⟩ (by rfl) ?_
  intro K hK
  obtain ⟨z0, z1, z2, z3, zf⟩ := RZ.out
  have f0 := zf 0
  have f1 := zf 1
  have f2 := zf 2
  have f3 := zf 3
  go_simp
  refine hK _ _ ?_
  clear f0 f1 f2 f3 z0 z1 z2 z3 zf
  have RZ : Hid (R4 ((((w3.setCell ⟨w.heap.size + 1 + 1, 0, none⟩ (.int .i64 (qn (ta + tb) b2 a3 a4))).setCell ⟨w.heap.size + 1 + 1, 1, none⟩ (.int .i64 (qp (ta + tb) b2 a3 a4))).setCell ⟨w.heap.size + 1 + 1, 2, none⟩ (.int .i64 (qv (ta + tb) b2 a3 a4))).setCell ⟨w.heap.size + 1 + 1, 3, none⟩ (.int .i64 (qs (ta + tb) b2 a3 a4))) (w.heap.size + 1 + 1) (qn (ta + tb) b2 a3 a4) (qp (ta + tb) b2 a3 a4) (qv (ta + tb) b2 a3 a4) (qs (ta + tb) b2 a3 a4)) := (((RZ.out.put0 _).put1 _).put2 _).put3 _
  have RA : Hid (R4 ((((w3.setCell ⟨w.heap.size + 1 + 1, 0, none⟩ (.int .i64 (qn (ta + tb) b2 a3 a4))).setCell ⟨w.heap.size + 1 + 1, 1, none⟩ (.int .i64 (qp (ta + tb) b2 a3 a4))).setCell ⟨w.heap.size + 1 + 1, 2, none⟩ (.int .i64 (qv (ta + tb) b2 a3 a4))).setCell ⟨w.heap.size + 1 + 1, 3, none⟩ (.int .i64 (qs (ta + tb) b2 a3 a4))) w.heap.size 0 b2 a3 a4) := (((RA.out.off (by omega) _ _).off (by omega) _ _).off (by omega) _ _).off (by omega) _ _
  have RB : Hid (R4 ((((w3.setCell ⟨w.heap.size + 1 + 1, 0, none⟩ (.int .i64 (qn (ta + tb) b2 a3 a4))).setCell ⟨w.heap.size + 1 + 1, 1, none⟩ (.int .i64 (qp (ta + tb) b2 a3 a4))).setCell ⟨w.heap.size + 1 + 1, 2, none⟩ (.int .i64 (qv (ta + tb) b2 a3 a4))).setCell ⟨w.heap.size + 1 + 1, 3, none⟩ (.int .i64 (qs (ta + tb) b2 a3 a4))) (w.heap.size + 1) b1 b2 a3 a4) := (((RB.out.off (by omega) _ _).off (by omega) _ _).off (by omega) _ _).off (by omega) _ _
  have B0 : Hid (Below w.heap.size w ((((w3.setCell ⟨w.heap.size + 1 + 1, 0, none⟩ (.int .i64 (qn (ta + tb) b2 a3 a4))).setCell ⟨w.heap.size + 1 + 1, 1, none⟩ (.int .i64 (qp (ta + tb) b2 a3 a4))).setCell ⟨w.heap.size + 1 + 1, 2, none⟩ (.int .i64 (qv (ta + tb) b2 a3 a4))).setCell ⟨w.heap.size + 1 + 1, 3, none⟩ (.int .i64 (qs (ta + tb) b2 a3 a4)))) := (((B0.out.setCell (by simp <;> omega) _).setCell (by simp <;> omega) _).setCell (by simp <;> omega) _).setCell (by simp <;> omega) _
  generalize (((w3.setCell ⟨w.heap.size + 1 + 1, 0, none⟩ (.int .i64 (qn (ta + tb) b2 a3 a4))).setCell ⟨w.heap.size + 1 + 1, 1, none⟩ (.int .i64 (qp (ta + tb) b2 a3 a4))).setCell ⟨w.heap.size + 1 + 1, 2, none⟩ (.int .i64 (qv (ta + tb) b2 a3 a4))).setCell ⟨w.heap.size + 1 + 1, 3, none⟩ (.int .i64 (qs (ta + tb) b2 a3 a4)) = w3 at B0 RA RB RZ ⊢
  refine wpI_take (i := 17) (v := ?_) rfl (by kernel_rfl) (by kernel_rfl) (by kernel_rfl) (fun _ _ _ h => h) ⟨by rfl, ?_⟩ ?_
  rotate_left
  · intro X _; go_simp; with_reducible rfl
  refine wpI_done ⟨RA.out, RB.out⟩ (by kernel_rfl) ?_ _
  go_wp2
  obtain ⟨k0, k1, k2, k3, _⟩ := RZ.out
  refine bodyPost_ret (v := .tuple #[.agg #[.int .i64 (qn (ta + tb) b2 a3 a4), .int .i64 (qp (ta + tb) b2 a3 a4), .int .i64 (qv (ta + tb) b2 a3 a4), .int .i64 (qs (ta + tb) b2 a3 a4)], .bool (qd (ta + tb) b2 a3 a4)]) (by simp [results, Try.results10, go_sem, k0, k1, k2, k3]) rfl ?_
  exact ⟨by rw [HM.out], B0.out⟩

end Go.Proofs.Ytonjgielpcofeaa
