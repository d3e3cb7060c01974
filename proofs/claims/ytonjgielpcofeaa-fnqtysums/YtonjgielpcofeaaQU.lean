/- Sums of the model. -/
import Derived.Test.YtonjgielpcofeaaQL
namespace Go.Proofs.Ytonjgielpcofeaa
open Go.RowKit

set_option maxHeartbeats 2000000 in
theorem sAdd_ge (a1 a2 a3 a4 b1 b2 : Int) (ha : Qok a1 a2 a3 a4) (hb : Qok b1 b2 a3 a4) (h1 : ¬ a1 = 0) (h2 : ¬ b1 = 0) (h5 : ¬ a2 < b2) (h6 : ¬ 9 < a2 - b2) (w : World) : Calls Try.prog 12 #[.agg #[.int .i64 a1, .int .i64 a2, .int .i64 a3, .int .i64 a4], .agg #[.int .i64 b1, .int .i64 b2, .int .i64 a3, .int .i64 a4]] w fun e w' => e = .returned (.tuple #[.agg #[.int .i64 (aR a1 a2 a3 a4 b1 b2 a3 a4).1, .int .i64 (aR a1 a2 a3 a4 b1 b2 a3 a4).2.1, .int .i64 (aR a1 a2 a3 a4 b1 b2 a3 a4).2.2.1, .int .i64 (aR a1 a2 a3 a4 b1 b2 a3 a4).2.2.2.1], .bool (aR a1 a2 a3 a4 b1 b2 a3 a4).2.2.2.2]) ∧ Below w.heap.size w w' := by
  have B0 : Hid (Below w.heap.size w ((((w).alloc (.cells #[.int .i64 a1, .int .i64 a2, .int .i64 a3, .int .i64 a4] 25)).alloc (.cells #[.int .i64 b1, .int .i64 b2, .int .i64 a3, .int .i64 a4] 25)).alloc (.cells #[.int .i64 0, .int .i64 0, .int .i64 0, .int .i64 0] 25))) := bstep (bstep (below_one w _) (below_one _ _)) (below_one _ _)
  have RA : Hid (R4 ((((w).alloc (.cells #[.int .i64 a1, .int .i64 a2, .int .i64 a3, .int .i64 a4] 25)).alloc (.cells #[.int .i64 b1, .int .i64 b2, .int .i64 a3, .int .i64 a4] 25)).alloc (.cells #[.int .i64 0, .int .i64 0, .int .i64 0, .int .i64 0] 25)) w.heap.size a1 a2 a3 a4) := ((R4.new w 25 a1 a2 a3 a4).call (below_one _ _)).call (below_one _ _)
  have RB : Hid (R4 ((((w).alloc (.cells #[.int .i64 a1, .int .i64 a2, .int .i64 a3, .int .i64 a4] 25)).alloc (.cells #[.int .i64 b1, .int .i64 b2, .int .i64 a3, .int .i64 a4] 25)).alloc (.cells #[.int .i64 0, .int .i64 0, .int .i64 0, .int .i64 0] 25)) (w.heap.size + 1) b1 b2 a3 a4) := by have h := (R4.new (w.alloc (.cells #[.int .i64 a1, .int .i64 a2, .int .i64 a3, .int .i64 a4] 25)) 25 b1 b2 a3 a4).call (below_one _ (.cells #[.int .i64 0, .int .i64 0, .int .i64 0, .int .i64 0] 25)); simp only [World.heap_size_alloc] at h; exact h
  have RZ : Hid (R4 ((((w).alloc (.cells #[.int .i64 a1, .int .i64 a2, .int .i64 a3, .int .i64 a4] 25)).alloc (.cells #[.int .i64 b1, .int .i64 b2, .int .i64 a3, .int .i64 a4] 25)).alloc (.cells #[.int .i64 0, .int .i64 0, .int .i64 0, .int .i64 0] 25)) (w.heap.size + 1 + 1) 0 0 0 0) := by have h := R4.new ((w.alloc (.cells #[.int .i64 a1, .int .i64 a2, .int .i64 a3, .int .i64 a4] 25)).alloc (.cells #[.int .i64 b1, .int .i64 b2, .int .i64 a3, .int .i64 a4] 25)) 25 0 0 0 0; simp only [World.heap_size_alloc] at h; exact h
  have hda := decide_eq_true ha
  have hdb := decide_eq_true hb
  obtain ⟨k, hk⟩ : ∃ k, k = (a2 - b2).toNat := ⟨_, rfl⟩
  have hk9 : k ≤ 9 := by omega
  have HM : Hid ((aR a1 a2 a3 a4 b1 b2 a3 a4) = ((qn (a1 * 10 ^ k + b1) b2 a3 a4), (qp (a1 * 10 ^ k + b1) b2 a3 a4), (qv (a1 * 10 ^ k + b1) b2 a3 a4), (qs (a1 * 10 ^ k + b1) b2 a3 a4), (qd (a1 * 10 ^ k + b1) b2 a3 a4))) := by
    show aR a1 a2 a3 a4 b1 b2 a3 a4 = _
    have e0 : (b2 - a2).toNat = 0 := by omega
    have e1 : min a2 b2 = b2 := by omega
    unfold aR
    rw [if_pos ⟨ha, hb, rfl, rfl⟩, if_neg h1, if_neg h2, if_neg (by omega), e1, e0, ← hk, Int.pow_zero, Int.mul_one]
  have hn1 : -1000000000 ≤ a1 ∧ a1 ≤ 1000000000 := by unfold Qok at ha; omega
  have hn2 : -1000000000 ≤ b1 ∧ b1 ≤ 1000000000 := by unfold Qok at hb; omega
  have u2 : -30 ≤ a2 ∧ a2 ≤ 30 := by unfold Qok at ha; omega
  have v2 : -30 ≤ b2 ∧ b2 ≤ 30 := by unfold Qok at hb; omega
  have hx1 : (a1 == 0) = false := by simp [h1]
  have hx2 : (b1 == 0) = false := by simp [h2]
  have hx5 : decide (a2 < b2) = false := by simp [h5]
  have hx6 : decide (9 < a2 - b2) = false := by simp [h6]
  have HK : Hid (a2 = b2 + k) := (show a2 = b2 + k by omega)
  clear ha hb hk h1 h2 h5 h6
  generalize (aR a1 a2 a3 a4 b1 b2 a3 a4) = R at HM ⊢
  go_enter Try.func12, Try.ntmps12
  go_wp2_with (go_at_call 14; first | ((with_reducible refine (sQok_any a1 a2 a3 a4 _).mono ?_); rintro e w2 ⟨rfl, hb⟩; have B0 : Hid (Below w.heap.size w w2) := bstep B0.out hb; have RA : Hid (R4 w2 w.heap.size a1 a2 a3 a4) := RA.out.call hb; have RB : Hid (R4 w2 (w.heap.size + 1) b1 b2 a3 a4) := RB.out.call hb; have RZ : Hid (R4 w2 (w.heap.size + 1 + 1) 0 0 0 0) := RZ.out.call hb; clear hb; (try clear x0 x1 x2 x3 y0 y1 y2 y3 z0 z1 z2 z3); obtain ⟨x0, x1, x2, x3, xf⟩ := RA.out; obtain ⟨y0, y1, y2, y3, yf⟩ := RB.out; obtain ⟨z0, z1, z2, z3, zf⟩ := RZ.out; (try clear f0 f1 f2 f3 g1 g2); have f0 := zf 0; have f1 := zf 1; have f2 := zf 2; have f3 := zf 3; have g1 := xf 1; have g2 := yf 1; clear zf xf yf; rw [hda]) | ((with_reducible refine (sQok_any b1 b2 a3 a4 _).mono ?_); rintro e w2 ⟨rfl, hb⟩; have B0 : Hid (Below w.heap.size w w2) := bstep B0.out hb; have RA : Hid (R4 w2 w.heap.size a1 a2 a3 a4) := RA.out.call hb; have RB : Hid (R4 w2 (w.heap.size + 1) b1 b2 a3 a4) := RB.out.call hb; have RZ : Hid (R4 w2 (w.heap.size + 1 + 1) 0 0 0 0) := RZ.out.call hb; clear hb; (try clear x0 x1 x2 x3 y0 y1 y2 y3 z0 z1 z2 z3); obtain ⟨x0, x1, x2, x3, xf⟩ := RA.out; obtain ⟨y0, y1, y2, y3, yf⟩ := RB.out; obtain ⟨z0, z1, z2, z3, zf⟩ := RZ.out; (try clear f0 f1 f2 f3 g1 g2); have f0 := zf 0; have f1 := zf 1; have f2 := zf 2; have f3 := zf 3; have g1 := xf 1; have g2 := yf 1; clear zf xf yf; rw [hdb]))
  clear hx1 hx2 hx5 hx6
  go_loopw [6, 7] (fun a i wr => ∃ j : Nat, a = .int .i64 (a1 * 10 ^ j) ∧ i = .int .i64 (b2 + j) ∧ j ≤ k ∧ wr = w2) (fun _ i _ => (b2 + k - intOf i).toNat)
  case atStart => exact ⟨0, by simp, by simp, by omega, rfl⟩
  case round =>
    obtain ⟨j, rfl, rfl, hj, rfl⟩ := hrel
    have hc := HK.out
    by_cases hjk : j < k
    · have h3 := ten_room (j := j + 1) hn1 (by omega)
      have h2 := ten_next a1 j
      have h4 : -1000000000000000000 ≤ a1 * 10 ^ j * 10 ∧ a1 * 10 ^ j * 10 ≤ 1000000000000000000 := by rw [← h2]; exact h3
      have H2 : Hid (a1 * 10 ^ (j + 1) = a1 * 10 ^ j * 10) := h2
      have hc2 : b2 + j < a2 := by omega
      clear h2 h3 hc
      go_wp2
      go_roundw
      case rel => exact ⟨j + 1, by rw [H2.out], by go_num, by omega, by trivial⟩
      case measure => simp [intOf]; omega
    · obtain rfl : j = k := by omega
      have hc2 : ¬ b2 + j < a2 := by omega
      have h3 := ten_room (j := j) hn1 hk9
      clear hc
      go_wp2_with (go_at_call 25; (with_reducible refine (sOnly (a1 * 10 ^ j + b1) b2 a3 a4 (by omega) (by omega) _).mono ?_); rintro e w2 ⟨rfl, hb⟩; have B0 : Hid (Below w.heap.size w w2) := bstep B0.out hb; have RA : Hid (R4 w2 w.heap.size a1 a2 a3 a4) := RA.out.call hb; have RB : Hid (R4 w2 (w.heap.size + 1) b1 b2 a3 a4) := RB.out.call hb; have RZ : Hid (R4 w2 (w.heap.size + 1 + 1) 0 0 0 0) := RZ.out.call hb; clear hb; (try clear x0 x1 x2 x3 y0 y1 y2 y3 z0 z1 z2 z3); obtain ⟨x0, x1, x2, x3, xf⟩ := RA.out; obtain ⟨y0, y1, y2, y3, yf⟩ := RB.out; obtain ⟨z0, z1, z2, z3, zf⟩ := RZ.out; (try clear f0 f1 f2 f3 g1 g2); have f0 := zf 0; have f1 := zf 1; have f2 := zf 2; have f3 := zf 3; have g1 := xf 1; have g2 := yf 1; clear zf xf yf)
      have LB : Hid (Below w.heap.size w ((((w2.setCell ⟨w.heap.size + 1 + 1, 0, none⟩ (.int .i64 (qn (a1 * 10 ^ j + b1) b2 a3 a4))).setCell ⟨w.heap.size + 1 + 1, 1, none⟩ (.int .i64 (qp (a1 * 10 ^ j + b1) b2 a3 a4))).setCell ⟨w.heap.size + 1 + 1, 2, none⟩ (.int .i64 (qv (a1 * 10 ^ j + b1) b2 a3 a4))).setCell ⟨w.heap.size + 1 + 1, 3, none⟩ (.int .i64 (qs (a1 * 10 ^ j + b1) b2 a3 a4)))) :=
        (((B0.out.setCell (by simp <;> omega) _).setCell (by simp <;> omega) _).setCell (by simp <;> omega) _).setCell (by simp <;> omega) _
      have LZ := (((RZ.out.put0 (qn (a1 * 10 ^ j + b1) b2 a3 a4)).put1 (qp (a1 * 10 ^ j + b1) b2 a3 a4)).put2 (qv (a1 * 10 ^ j + b1) b2 a3 a4)).put3 (qs (a1 * 10 ^ j + b1) b2 a3 a4)
      generalize (((w2.setCell ⟨w.heap.size + 1 + 1, 0, none⟩ (.int .i64 (qn (a1 * 10 ^ j + b1) b2 a3 a4))).setCell ⟨w.heap.size + 1 + 1, 1, none⟩ (.int .i64 (qp (a1 * 10 ^ j + b1) b2 a3 a4))).setCell ⟨w.heap.size + 1 + 1, 2, none⟩ (.int .i64 (qv (a1 * 10 ^ j + b1) b2 a3 a4))).setCell ⟨w.heap.size + 1 + 1, 3, none⟩ (.int .i64 (qs (a1 * 10 ^ j + b1) b2 a3 a4)) = X at LB LZ ⊢
      obtain ⟨k0, k1, k2, k3, _⟩ := LZ
      refine bodyPost_ret (v := .tuple #[.agg #[.int .i64 (qn (a1 * 10 ^ j + b1) b2 a3 a4), .int .i64 (qp (a1 * 10 ^ j + b1) b2 a3 a4), .int .i64 (qv (a1 * 10 ^ j + b1) b2 a3 a4), .int .i64 (qs (a1 * 10 ^ j + b1) b2 a3 a4)], .bool (qd (a1 * 10 ^ j + b1) b2 a3 a4)]) (by simp [results, Try.results12, go_sem, k0, k1, k2, k3]) rfl ?_
      exact ⟨by rw [HM.out], LB.out⟩

end Go.Proofs.Ytonjgielpcofeaa
