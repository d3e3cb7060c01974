/- What is right without noughts at its end. -/
import Derived.Test.YtonjgielpcofeaaQD
namespace Go.Proofs.Ytonjgielpcofeaa
open Go.RowKit

set_option maxHeartbeats 1000000 in
theorem iOnly_any (n p v s : Int) (hn : -9223372036854775808 ≤ n ∧ n ≤ 9223372036854775807) (hp : -1000 ≤ p ∧ p ≤ 1000) (w : World) : Calls Try.prog 23 #[.agg #[.int .i64 n, .int .i64 p, .int .i64 v, .int .i64 s]] w fun e w' => e = .returned (.tuple #[if Qok (nz n).1 (pz n p) v s then .agg #[.int .i64 (nz n).1, .int .i64 (pz n p), .int .i64 v, .int .i64 s] else .agg #[.int .i64 0, .int .i64 0, .int .i64 0, .int .i64 0], .bool (decide (Qok (nz n).1 (pz n p) v s))]) ∧ Below w.heap.size w w' := by
  have B0 : Hid (Below w.heap.size w ((((w).alloc (.cells #[.int .i64 n, .int .i64 p, .int .i64 v, .int .i64 s] 25))).alloc (.cells #[.int .i64 0, .int .i64 0, .int .i64 0, .int .i64 0] 25))) := bstep (below_one w _) (below_one _ _)
  have RZ : Hid (R4 ((((w).alloc (.cells #[.int .i64 n, .int .i64 p, .int .i64 v, .int .i64 s] 25))).alloc (.cells #[.int .i64 0, .int .i64 0, .int .i64 0, .int .i64 0] 25)) (w.heap.size + 1) 0 0 0 0) := by have h := R4.new ((w).alloc (.cells #[.int .i64 n, .int .i64 p, .int .i64 v, .int .i64 s] 25)) 25 0 0 0 0; rw [show ((w).alloc (.cells #[.int .i64 n, .int .i64 p, .int .i64 v, .int .i64 s] 25)).heap.size = w.heap.size + 1 by simp] at h; exact h
  by_cases h : Qok (nz n).1 (pz n p) v s
  · rw [if_pos h]
    have hd := decide_eq_true h
    rw [hd]
    go_enter Try.func23, Try.ntmps23
    go_wp2_with (first
      | (go_at_call 35; (with_reducible refine (iNo_any n p v s hn hp _).mono ?_); rintro e w1 ⟨rfl, hb⟩; have hG : w.heap.size + 1 < w1.heap.size := by {have := hb.size; simp at this; omega}; have B0 : Hid (Below w.heap.size w (w1.alloc (.cells #[.int .i64 (nz n).1, .int .i64 (pz n p), .int .i64 v, .int .i64 s] 25))) := bstep (bstep B0.out hb) (below_one _ _); have RT : Hid (R4 (w1.alloc (.cells #[.int .i64 (nz n).1, .int .i64 (pz n p), .int .i64 v, .int .i64 s] 25)) w1.heap.size (nz n).1 (pz n p) v s) := R4.new _ _ _ _ _ _; have RZ : Hid (R4 (w1.alloc (.cells #[.int .i64 (nz n).1, .int .i64 (pz n p), .int .i64 v, .int .i64 s] 25)) (w.heap.size + 1) 0 0 0 0) := (RZ.out.call hb).call (below_one _ _); clear hb)
      | (go_at_call 16; (with_reducible refine (iQok_any _ _ _ _ _).mono ?_); rintro e w2 ⟨rfl, hb⟩; have B0 : Hid (Below w.heap.size w w2) := bstep B0.out hb; have RT : Hid (R4 w2 w1.heap.size (nz n).1 (pz n p) v s) := RT.out.call hb; have RZ : Hid (R4 w2 (w.heap.size + 1) 0 0 0 0) := RZ.out.call hb; obtain ⟨t0, t1, t2, t3, _⟩ := RT.out; obtain ⟨z0, z1, z2, z3, zf⟩ := RZ.out; have y0 := zf 0; have y1 := zf 1; have y2 := zf 2; have y3 := zf 3; clear zf; generalize w1.heap.size = G at hG t0 t1 t2 t3 ⊢; rw [hd]; clear hb))
    have LB : Hid (Below w.heap.size w ((((w2.setCell ⟨w.heap.size + 1, 0, none⟩ (.int .i64 (nz n).1)).setCell ⟨w.heap.size + 1, 1, none⟩ (.int .i64 (pz n p))).setCell ⟨w.heap.size + 1, 2, none⟩ (.int .i64 v)).setCell ⟨w.heap.size + 1, 3, none⟩ (.int .i64 s))) :=
      (((B0.out.setCell (by simp <;> omega) _).setCell (by simp <;> omega) _).setCell (by simp <;> omega) _).setCell (by simp <;> omega) _
    have LZ := (((RZ.out.put0 (nz n).1).put1 (pz n p)).put2 v).put3 s
    generalize (((w2.setCell ⟨w.heap.size + 1, 0, none⟩ (.int .i64 (nz n).1)).setCell ⟨w.heap.size + 1, 1, none⟩ (.int .i64 (pz n p))).setCell ⟨w.heap.size + 1, 2, none⟩ (.int .i64 v)).setCell ⟨w.heap.size + 1, 3, none⟩ (.int .i64 s) = X at LB LZ ⊢
    obtain ⟨k0, k1, k2, k3, _⟩ := LZ
    refine bodyPost_ret (v := .tuple #[.agg #[.int .i64 (nz n).1, .int .i64 (pz n p), .int .i64 v, .int .i64 s], .bool true]) (by simp [results, Try.results23, go_sem, k0, k1, k2, k3]) rfl ?_
    exact ⟨rfl, LB.out⟩
  · rw [if_neg h]
    have hd := decide_eq_false h
    rw [hd]
    go_enter Try.func23, Try.ntmps23
    go_wp2_with (first
      | (go_at_call 35; (with_reducible refine (iNo_any n p v s hn hp _).mono ?_); rintro e w1 ⟨rfl, hb⟩; have hG : w.heap.size + 1 < w1.heap.size := by {have := hb.size; simp at this; omega}; have B0 : Hid (Below w.heap.size w (w1.alloc (.cells #[.int .i64 (nz n).1, .int .i64 (pz n p), .int .i64 v, .int .i64 s] 25))) := bstep (bstep B0.out hb) (below_one _ _); have RT : Hid (R4 (w1.alloc (.cells #[.int .i64 (nz n).1, .int .i64 (pz n p), .int .i64 v, .int .i64 s] 25)) w1.heap.size (nz n).1 (pz n p) v s) := R4.new _ _ _ _ _ _; have RZ : Hid (R4 (w1.alloc (.cells #[.int .i64 (nz n).1, .int .i64 (pz n p), .int .i64 v, .int .i64 s] 25)) (w.heap.size + 1) 0 0 0 0) := (RZ.out.call hb).call (below_one _ _); clear hb)
      | (go_at_call 16; (with_reducible refine (iQok_any _ _ _ _ _).mono ?_); rintro e w2 ⟨rfl, hb⟩; have B0 : Hid (Below w.heap.size w w2) := bstep B0.out hb; have RT : Hid (R4 w2 w1.heap.size (nz n).1 (pz n p) v s) := RT.out.call hb; have RZ : Hid (R4 w2 (w.heap.size + 1) 0 0 0 0) := RZ.out.call hb; obtain ⟨t0, t1, t2, t3, _⟩ := RT.out; obtain ⟨z0, z1, z2, z3, zf⟩ := RZ.out; have y0 := zf 0; have y1 := zf 1; have y2 := zf 2; have y3 := zf 3; clear zf; generalize w1.heap.size = G at hG t0 t1 t2 t3 ⊢; rw [hd]; clear hb))
    have LB : Hid (Below w.heap.size w ((((w2.setCell ⟨w.heap.size + 1, 0, none⟩ (.int .i64 0)).setCell ⟨w.heap.size + 1, 1, none⟩ (.int .i64 0)).setCell ⟨w.heap.size + 1, 2, none⟩ (.int .i64 0)).setCell ⟨w.heap.size + 1, 3, none⟩ (.int .i64 0))) :=
      (((B0.out.setCell (by simp <;> omega) _).setCell (by simp <;> omega) _).setCell (by simp <;> omega) _).setCell (by simp <;> omega) _
    have LZ := (((RZ.out.put0 0).put1 0).put2 0).put3 0
    generalize (((w2.setCell ⟨w.heap.size + 1, 0, none⟩ (.int .i64 0)).setCell ⟨w.heap.size + 1, 1, none⟩ (.int .i64 0)).setCell ⟨w.heap.size + 1, 2, none⟩ (.int .i64 0)).setCell ⟨w.heap.size + 1, 3, none⟩ (.int .i64 0) = X at LB LZ ⊢
    obtain ⟨k0, k1, k2, k3, _⟩ := LZ
    refine bodyPost_ret (v := .tuple #[.agg #[.int .i64 0, .int .i64 0, .int .i64 0, .int .i64 0], .bool false]) (by simp [results, Try.results23, go_sem, k0, k1, k2, k3]) rfl ?_
    exact ⟨rfl, LB.out⟩

end Go.Proofs.Ytonjgielpcofeaa
