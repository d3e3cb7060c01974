/- Products of the program. -/
import Derived.Test.YtonjgielpcofeaaQG
namespace Go.Proofs.Ytonjgielpcofeaa
open Go.RowKit

theorem World.heap_size_alloc (w : World) (o : Obj) : (w.alloc o).heap.size = w.heap.size + 1 := by simp

/-- What a product comes to. -/
def mR (a1 a2 a3 a4 b1 b2 b3 b4 : Int) : Int × Int × Int × Int × Bool :=
  if Qok a1 a2 a3 a4 ∧ Qok b1 b2 b3 b4 then ((qn (a1 * b1) (a2 + b2) (a3 + b3) (a4 + b4)), (qp (a1 * b1) (a2 + b2) (a3 + b3) (a4 + b4)), (qv (a1 * b1) (a2 + b2) (a3 + b3) (a4 + b4)), (qs (a1 * b1) (a2 + b2) (a3 + b3) (a4 + b4)), (qd (a1 * b1) (a2 + b2) (a3 + b3) (a4 + b4))) else (0, 0, 0, 0, false)

theorem mul_room {a1 a2 a3 a4 b1 b2 b3 b4 : Int} (ha : Qok a1 a2 a3 a4) (hb : Qok b1 b2 b3 b4) : (-9223372036854775808 ≤ a1 * b1 ∧ a1 * b1 ≤ 9223372036854775807) ∧ -1000 ≤ a2 + b2 ∧ a2 + b2 ≤ 1000 := by
  unfold Qok at ha hb
  refine ⟨?_, by omega⟩
  have h1 : a1.natAbs ≤ 1000000000 := by omega
  have h2 : b1.natAbs ≤ 1000000000 := by omega
  have h3 : (a1 * b1).natAbs ≤ 1000000000000000000 := by rw [Int.natAbs_mul]; exact Nat.mul_le_mul h1 h2
  omega

set_option maxHeartbeats 2000000 in
theorem iMul_any (a1 a2 a3 a4 b1 b2 b3 b4 : Int) (w : World) : Calls Try.prog 11 #[.agg #[.int .i64 a1, .int .i64 a2, .int .i64 a3, .int .i64 a4], .agg #[.int .i64 b1, .int .i64 b2, .int .i64 b3, .int .i64 b4]] w fun e w' => e = .returned (.tuple #[.agg #[.int .i64 (mR a1 a2 a3 a4 b1 b2 b3 b4).1, .int .i64 (mR a1 a2 a3 a4 b1 b2 b3 b4).2.1, .int .i64 (mR a1 a2 a3 a4 b1 b2 b3 b4).2.2.1, .int .i64 (mR a1 a2 a3 a4 b1 b2 b3 b4).2.2.2.1], .bool (mR a1 a2 a3 a4 b1 b2 b3 b4).2.2.2.2]) ∧ Below w.heap.size w w' := by
  have B0 : Hid (Below w.heap.size w ((((w).alloc (.cells #[.int .i64 a1, .int .i64 a2, .int .i64 a3, .int .i64 a4] 25)).alloc (.cells #[.int .i64 b1, .int .i64 b2, .int .i64 b3, .int .i64 b4] 25)).alloc (.cells #[.int .i64 0, .int .i64 0, .int .i64 0, .int .i64 0] 25))) := bstep (bstep (below_one w _) (below_one _ _)) (below_one _ _)
  have RA : Hid (R4 ((((w).alloc (.cells #[.int .i64 a1, .int .i64 a2, .int .i64 a3, .int .i64 a4] 25)).alloc (.cells #[.int .i64 b1, .int .i64 b2, .int .i64 b3, .int .i64 b4] 25)).alloc (.cells #[.int .i64 0, .int .i64 0, .int .i64 0, .int .i64 0] 25)) w.heap.size a1 a2 a3 a4) := ((R4.new w 25 a1 a2 a3 a4).call (below_one _ _)).call (below_one _ _)
  have RB : Hid (R4 ((((w).alloc (.cells #[.int .i64 a1, .int .i64 a2, .int .i64 a3, .int .i64 a4] 25)).alloc (.cells #[.int .i64 b1, .int .i64 b2, .int .i64 b3, .int .i64 b4] 25)).alloc (.cells #[.int .i64 0, .int .i64 0, .int .i64 0, .int .i64 0] 25)) (w.heap.size + 1) b1 b2 b3 b4) := by have h := (R4.new (w.alloc (.cells #[.int .i64 a1, .int .i64 a2, .int .i64 a3, .int .i64 a4] 25)) 25 b1 b2 b3 b4).call (below_one _ (.cells #[.int .i64 0, .int .i64 0, .int .i64 0, .int .i64 0] 25)); simp only [World.heap_size_alloc] at h; exact h
  have RZ : Hid (R4 ((((w).alloc (.cells #[.int .i64 a1, .int .i64 a2, .int .i64 a3, .int .i64 a4] 25)).alloc (.cells #[.int .i64 b1, .int .i64 b2, .int .i64 b3, .int .i64 b4] 25)).alloc (.cells #[.int .i64 0, .int .i64 0, .int .i64 0, .int .i64 0] 25)) (w.heap.size + 1 + 1) 0 0 0 0) := by have h := R4.new ((w.alloc (.cells #[.int .i64 a1, .int .i64 a2, .int .i64 a3, .int .i64 a4] 25)).alloc (.cells #[.int .i64 b1, .int .i64 b2, .int .i64 b3, .int .i64 b4] 25)) 25 0 0 0 0; simp only [World.heap_size_alloc] at h; exact h
  by_cases ha : Qok a1 a2 a3 a4
  · have hda := decide_eq_true ha
    by_cases hb : Qok b1 b2 b3 b4
    · have hdb := decide_eq_true hb
      have HM : Hid ((mR a1 a2 a3 a4 b1 b2 b3 b4) = ((qn (a1 * b1) (a2 + b2) (a3 + b3) (a4 + b4)), (qp (a1 * b1) (a2 + b2) (a3 + b3) (a4 + b4)), (qv (a1 * b1) (a2 + b2) (a3 + b3) (a4 + b4)), (qs (a1 * b1) (a2 + b2) (a3 + b3) (a4 + b4)), (qd (a1 * b1) (a2 + b2) (a3 + b3) (a4 + b4)))) := if_pos ⟨ha, hb⟩
      obtain ⟨hN, hP⟩ := mul_room ha hb
      have g2 : -60 ≤ a2 + b2 ∧ a2 + b2 ≤ 60 := by unfold Qok at ha hb; omega
      have g3 : -18 ≤ a3 + b3 ∧ a3 + b3 ≤ 18 := by unfold Qok at ha hb; omega
      have g4 : -18 ≤ a4 + b4 ∧ a4 + b4 ≤ 18 := by unfold Qok at ha hb; omega
      clear ha hb
      generalize hR : (mR a1 a2 a3 a4 b1 b2 b3 b4) = R at HM ⊢
      go_enter Try.func11, Try.ntmps11
      go_wp2_with (first
      | (go_at_call 16; first | ((with_reducible refine (iQok_any a1 a2 a3 a4 _).mono ?_); rintro e w2 ⟨rfl, hb⟩; have B0 : Hid (Below w.heap.size w w2) := bstep B0.out hb; have RA : Hid (R4 w2 w.heap.size a1 a2 a3 a4) := RA.out.call hb; have RB : Hid (R4 w2 (w.heap.size + 1) b1 b2 b3 b4) := RB.out.call hb; have RZ : Hid (R4 w2 (w.heap.size + 1 + 1) 0 0 0 0) := RZ.out.call hb; clear hb; (try clear x0 x1 x2 x3 y0 y1 y2 y3 z0 z1 z2 z3); obtain ⟨x0, x1, x2, x3, _⟩ := RA.out; obtain ⟨y0, y1, y2, y3, _⟩ := RB.out; obtain ⟨z0, z1, z2, z3, zf⟩ := RZ.out; (try clear f0 f1 f2 f3); have f0 := zf 0; have f1 := zf 1; have f2 := zf 2; have f3 := zf 3; clear zf; rw [hda]) | ((with_reducible refine (iQok_any b1 b2 b3 b4 _).mono ?_); rintro e w2 ⟨rfl, hb⟩; have B0 : Hid (Below w.heap.size w w2) := bstep B0.out hb; have RA : Hid (R4 w2 w.heap.size a1 a2 a3 a4) := RA.out.call hb; have RB : Hid (R4 w2 (w.heap.size + 1) b1 b2 b3 b4) := RB.out.call hb; have RZ : Hid (R4 w2 (w.heap.size + 1 + 1) 0 0 0 0) := RZ.out.call hb; clear hb; (try clear x0 x1 x2 x3 y0 y1 y2 y3 z0 z1 z2 z3); obtain ⟨x0, x1, x2, x3, _⟩ := RA.out; obtain ⟨y0, y1, y2, y3, _⟩ := RB.out; obtain ⟨z0, z1, z2, z3, zf⟩ := RZ.out; (try clear f0 f1 f2 f3); have f0 := zf 0; have f1 := zf 1; have f2 := zf 2; have f3 := zf 3; clear zf; rw [hdb]))
      | (go_at_call 23; (with_reducible refine (iOnly (a1 * b1) (a2 + b2) (a3 + b3) (a4 + b4) hN hP _).mono ?_); rintro e w2 ⟨rfl, hb⟩; have B0 : Hid (Below w.heap.size w w2) := bstep B0.out hb; have RA : Hid (R4 w2 w.heap.size a1 a2 a3 a4) := RA.out.call hb; have RB : Hid (R4 w2 (w.heap.size + 1) b1 b2 b3 b4) := RB.out.call hb; have RZ : Hid (R4 w2 (w.heap.size + 1 + 1) 0 0 0 0) := RZ.out.call hb; clear hb; (try clear x0 x1 x2 x3 y0 y1 y2 y3 z0 z1 z2 z3); obtain ⟨x0, x1, x2, x3, _⟩ := RA.out; obtain ⟨y0, y1, y2, y3, _⟩ := RB.out; obtain ⟨z0, z1, z2, z3, zf⟩ := RZ.out; (try clear f0 f1 f2 f3); have f0 := zf 0; have f1 := zf 1; have f2 := zf 2; have f3 := zf 3; clear zf))
      have LB : Hid (Below w.heap.size w ((((w2.setCell ⟨w.heap.size + 1 + 1, 0, none⟩ (.int .i64 (qn (a1 * b1) (a2 + b2) (a3 + b3) (a4 + b4)))).setCell ⟨w.heap.size + 1 + 1, 1, none⟩ (.int .i64 (qp (a1 * b1) (a2 + b2) (a3 + b3) (a4 + b4)))).setCell ⟨w.heap.size + 1 + 1, 2, none⟩ (.int .i64 (qv (a1 * b1) (a2 + b2) (a3 + b3) (a4 + b4)))).setCell ⟨w.heap.size + 1 + 1, 3, none⟩ (.int .i64 (qs (a1 * b1) (a2 + b2) (a3 + b3) (a4 + b4))))) :=
        (((B0.out.setCell (by simp <;> omega) _).setCell (by simp <;> omega) _).setCell (by simp <;> omega) _).setCell (by simp <;> omega) _
      have LZ := (((RZ.out.put0 (qn (a1 * b1) (a2 + b2) (a3 + b3) (a4 + b4))).put1 (qp (a1 * b1) (a2 + b2) (a3 + b3) (a4 + b4))).put2 (qv (a1 * b1) (a2 + b2) (a3 + b3) (a4 + b4))).put3 (qs (a1 * b1) (a2 + b2) (a3 + b3) (a4 + b4))
      generalize (((w2.setCell ⟨w.heap.size + 1 + 1, 0, none⟩ (.int .i64 (qn (a1 * b1) (a2 + b2) (a3 + b3) (a4 + b4)))).setCell ⟨w.heap.size + 1 + 1, 1, none⟩ (.int .i64 (qp (a1 * b1) (a2 + b2) (a3 + b3) (a4 + b4)))).setCell ⟨w.heap.size + 1 + 1, 2, none⟩ (.int .i64 (qv (a1 * b1) (a2 + b2) (a3 + b3) (a4 + b4)))).setCell ⟨w.heap.size + 1 + 1, 3, none⟩ (.int .i64 (qs (a1 * b1) (a2 + b2) (a3 + b3) (a4 + b4))) = X at LB LZ ⊢
      obtain ⟨k0, k1, k2, k3, _⟩ := LZ
      refine bodyPost_ret (v := .tuple #[.agg #[.int .i64 (qn (a1 * b1) (a2 + b2) (a3 + b3) (a4 + b4)), .int .i64 (qp (a1 * b1) (a2 + b2) (a3 + b3) (a4 + b4)), .int .i64 (qv (a1 * b1) (a2 + b2) (a3 + b3) (a4 + b4)), .int .i64 (qs (a1 * b1) (a2 + b2) (a3 + b3) (a4 + b4))], .bool (qd (a1 * b1) (a2 + b2) (a3 + b3) (a4 + b4))]) (by simp [results, Try.results11, go_sem, k0, k1, k2, k3]) rfl ?_
      exact ⟨by rw [HM.out], LB.out⟩
    · have hdb := decide_eq_false hb
      have HM : Hid ((mR a1 a2 a3 a4 b1 b2 b3 b4) = (0, 0, 0, 0, false)) := if_neg (fun h => hb h.2)
      clear ha hb
      generalize hR : (mR a1 a2 a3 a4 b1 b2 b3 b4) = R at HM ⊢
      go_enter Try.func11, Try.ntmps11
      go_wp2_with (first
      | (go_at_call 16; first | ((with_reducible refine (iQok_any a1 a2 a3 a4 _).mono ?_); rintro e w2 ⟨rfl, hb⟩; have B0 : Hid (Below w.heap.size w w2) := bstep B0.out hb; have RA : Hid (R4 w2 w.heap.size a1 a2 a3 a4) := RA.out.call hb; have RB : Hid (R4 w2 (w.heap.size + 1) b1 b2 b3 b4) := RB.out.call hb; have RZ : Hid (R4 w2 (w.heap.size + 1 + 1) 0 0 0 0) := RZ.out.call hb; clear hb; (try clear x0 x1 x2 x3 y0 y1 y2 y3 z0 z1 z2 z3); obtain ⟨x0, x1, x2, x3, _⟩ := RA.out; obtain ⟨y0, y1, y2, y3, _⟩ := RB.out; obtain ⟨z0, z1, z2, z3, zf⟩ := RZ.out; (try clear f0 f1 f2 f3); have f0 := zf 0; have f1 := zf 1; have f2 := zf 2; have f3 := zf 3; clear zf; rw [hda]) | ((with_reducible refine (iQok_any b1 b2 b3 b4 _).mono ?_); rintro e w2 ⟨rfl, hb⟩; have B0 : Hid (Below w.heap.size w w2) := bstep B0.out hb; have RA : Hid (R4 w2 w.heap.size a1 a2 a3 a4) := RA.out.call hb; have RB : Hid (R4 w2 (w.heap.size + 1) b1 b2 b3 b4) := RB.out.call hb; have RZ : Hid (R4 w2 (w.heap.size + 1 + 1) 0 0 0 0) := RZ.out.call hb; clear hb; (try clear x0 x1 x2 x3 y0 y1 y2 y3 z0 z1 z2 z3); obtain ⟨x0, x1, x2, x3, _⟩ := RA.out; obtain ⟨y0, y1, y2, y3, _⟩ := RB.out; obtain ⟨z0, z1, z2, z3, zf⟩ := RZ.out; (try clear f0 f1 f2 f3); have f0 := zf 0; have f1 := zf 1; have f2 := zf 2; have f3 := zf 3; clear zf; rw [hdb]))
      | (go_at_call 23; (with_reducible refine (iOnly (a1 * b1) (a2 + b2) (a3 + b3) (a4 + b4) hN hP _).mono ?_); rintro e w2 ⟨rfl, hb⟩; have B0 : Hid (Below w.heap.size w w2) := bstep B0.out hb; have RA : Hid (R4 w2 w.heap.size a1 a2 a3 a4) := RA.out.call hb; have RB : Hid (R4 w2 (w.heap.size + 1) b1 b2 b3 b4) := RB.out.call hb; have RZ : Hid (R4 w2 (w.heap.size + 1 + 1) 0 0 0 0) := RZ.out.call hb; clear hb; (try clear x0 x1 x2 x3 y0 y1 y2 y3 z0 z1 z2 z3); obtain ⟨x0, x1, x2, x3, _⟩ := RA.out; obtain ⟨y0, y1, y2, y3, _⟩ := RB.out; obtain ⟨z0, z1, z2, z3, zf⟩ := RZ.out; (try clear f0 f1 f2 f3); have f0 := zf 0; have f1 := zf 1; have f2 := zf 2; have f3 := zf 3; clear zf))
      have LB : Hid (Below w.heap.size w ((((w2.setCell ⟨w.heap.size + 1 + 1, 0, none⟩ (.int .i64 0)).setCell ⟨w.heap.size + 1 + 1, 1, none⟩ (.int .i64 0)).setCell ⟨w.heap.size + 1 + 1, 2, none⟩ (.int .i64 0)).setCell ⟨w.heap.size + 1 + 1, 3, none⟩ (.int .i64 0))) :=
        (((B0.out.setCell (by simp <;> omega) _).setCell (by simp <;> omega) _).setCell (by simp <;> omega) _).setCell (by simp <;> omega) _
      have LZ := (((RZ.out.put0 0).put1 0).put2 0).put3 0
      generalize (((w2.setCell ⟨w.heap.size + 1 + 1, 0, none⟩ (.int .i64 0)).setCell ⟨w.heap.size + 1 + 1, 1, none⟩ (.int .i64 0)).setCell ⟨w.heap.size + 1 + 1, 2, none⟩ (.int .i64 0)).setCell ⟨w.heap.size + 1 + 1, 3, none⟩ (.int .i64 0) = X at LB LZ ⊢
      obtain ⟨k0, k1, k2, k3, _⟩ := LZ
      refine bodyPost_ret (v := .tuple #[.agg #[.int .i64 0, .int .i64 0, .int .i64 0, .int .i64 0], .bool false]) (by simp [results, Try.results11, go_sem, k0, k1, k2, k3]) rfl ?_
      exact ⟨by rw [HM.out], LB.out⟩
  · have hda := decide_eq_false ha
    have HM : Hid ((mR a1 a2 a3 a4 b1 b2 b3 b4) = (0, 0, 0, 0, false)) := if_neg (fun h => ha h.1)
    clear ha
    generalize hR : (mR a1 a2 a3 a4 b1 b2 b3 b4) = R at HM ⊢
    go_enter Try.func11, Try.ntmps11
    go_wp2_with (first
      | (go_at_call 16; first | ((with_reducible refine (iQok_any a1 a2 a3 a4 _).mono ?_); rintro e w2 ⟨rfl, hb⟩; have B0 : Hid (Below w.heap.size w w2) := bstep B0.out hb; have RA : Hid (R4 w2 w.heap.size a1 a2 a3 a4) := RA.out.call hb; have RB : Hid (R4 w2 (w.heap.size + 1) b1 b2 b3 b4) := RB.out.call hb; have RZ : Hid (R4 w2 (w.heap.size + 1 + 1) 0 0 0 0) := RZ.out.call hb; clear hb; (try clear x0 x1 x2 x3 y0 y1 y2 y3 z0 z1 z2 z3); obtain ⟨x0, x1, x2, x3, _⟩ := RA.out; obtain ⟨y0, y1, y2, y3, _⟩ := RB.out; obtain ⟨z0, z1, z2, z3, zf⟩ := RZ.out; (try clear f0 f1 f2 f3); have f0 := zf 0; have f1 := zf 1; have f2 := zf 2; have f3 := zf 3; clear zf; rw [hda]) | ((with_reducible refine (iQok_any b1 b2 b3 b4 _).mono ?_); rintro e w2 ⟨rfl, hb⟩; have B0 : Hid (Below w.heap.size w w2) := bstep B0.out hb; have RA : Hid (R4 w2 w.heap.size a1 a2 a3 a4) := RA.out.call hb; have RB : Hid (R4 w2 (w.heap.size + 1) b1 b2 b3 b4) := RB.out.call hb; have RZ : Hid (R4 w2 (w.heap.size + 1 + 1) 0 0 0 0) := RZ.out.call hb; clear hb; (try clear x0 x1 x2 x3 y0 y1 y2 y3 z0 z1 z2 z3); obtain ⟨x0, x1, x2, x3, _⟩ := RA.out; obtain ⟨y0, y1, y2, y3, _⟩ := RB.out; obtain ⟨z0, z1, z2, z3, zf⟩ := RZ.out; (try clear f0 f1 f2 f3); have f0 := zf 0; have f1 := zf 1; have f2 := zf 2; have f3 := zf 3; clear zf; rw [hdb]))
      | (go_at_call 23; (with_reducible refine (iOnly (a1 * b1) (a2 + b2) (a3 + b3) (a4 + b4) hN hP _).mono ?_); rintro e w2 ⟨rfl, hb⟩; have B0 : Hid (Below w.heap.size w w2) := bstep B0.out hb; have RA : Hid (R4 w2 w.heap.size a1 a2 a3 a4) := RA.out.call hb; have RB : Hid (R4 w2 (w.heap.size + 1) b1 b2 b3 b4) := RB.out.call hb; have RZ : Hid (R4 w2 (w.heap.size + 1 + 1) 0 0 0 0) := RZ.out.call hb; clear hb; (try clear x0 x1 x2 x3 y0 y1 y2 y3 z0 z1 z2 z3); obtain ⟨x0, x1, x2, x3, _⟩ := RA.out; obtain ⟨y0, y1, y2, y3, _⟩ := RB.out; obtain ⟨z0, z1, z2, z3, zf⟩ := RZ.out; (try clear f0 f1 f2 f3); have f0 := zf 0; have f1 := zf 1; have f2 := zf 2; have f3 := zf 3; clear zf))
    have LB : Hid (Below w.heap.size w ((((w2.setCell ⟨w.heap.size + 1 + 1, 0, none⟩ (.int .i64 0)).setCell ⟨w.heap.size + 1 + 1, 1, none⟩ (.int .i64 0)).setCell ⟨w.heap.size + 1 + 1, 2, none⟩ (.int .i64 0)).setCell ⟨w.heap.size + 1 + 1, 3, none⟩ (.int .i64 0))) :=
      (((B0.out.setCell (by simp <;> omega) _).setCell (by simp <;> omega) _).setCell (by simp <;> omega) _).setCell (by simp <;> omega) _
    have LZ := (((RZ.out.put0 0).put1 0).put2 0).put3 0
    generalize (((w2.setCell ⟨w.heap.size + 1 + 1, 0, none⟩ (.int .i64 0)).setCell ⟨w.heap.size + 1 + 1, 1, none⟩ (.int .i64 0)).setCell ⟨w.heap.size + 1 + 1, 2, none⟩ (.int .i64 0)).setCell ⟨w.heap.size + 1 + 1, 3, none⟩ (.int .i64 0) = X at LB LZ ⊢
    obtain ⟨k0, k1, k2, k3, _⟩ := LZ
    refine bodyPost_ret (v := .tuple #[.agg #[.int .i64 0, .int .i64 0, .int .i64 0, .int .i64 0], .bool false]) (by simp [results, Try.results11, go_sem, k0, k1, k2, k3]) rfl ?_
    exact ⟨by rw [HM.out], LB.out⟩

end Go.Proofs.Ytonjgielpcofeaa
