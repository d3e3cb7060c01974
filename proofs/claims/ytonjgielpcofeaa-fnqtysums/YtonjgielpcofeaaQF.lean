/- What is right without noughts at its end: the model. -/
import Derived.Test.YtonjgielpcofeaaQE
namespace Go.Proofs.Ytonjgielpcofeaa
open Go.RowKit

set_option maxHeartbeats 2000000 in
theorem sOnly_any (n p v s : Int) (hn : -9223372036854775808 ≤ n ∧ n ≤ 9223372036854775807) (hp : -1000 ≤ p ∧ p ≤ 1000) (w : World) : Calls Try.prog 25 #[.int .i64 n, .int .i64 p, .int .i64 v, .int .i64 s] w fun e w' => e = .returned (.tuple #[if Qok (nz n).1 (pz n p) v s then .agg #[.int .i64 (nz n).1, .int .i64 (pz n p), .int .i64 v, .int .i64 s] else .agg #[.int .i64 0, .int .i64 0, .int .i64 0, .int .i64 0], .bool (decide (Qok (nz n).1 (pz n p) v s))]) ∧ Below w.heap.size w w' := by
  by_cases h0 : n = 0
  · subst h0
    have e0 : pz 0 p = (nz 0).2 := by rw [nz_stop (by simp)]; rfl
    rw [e0]
    clear e0
    obtain ⟨R, hR⟩ : ∃ R, R = (Value.tuple #[if Qok (nz 0).1 ((nz 0).2) v s then .agg #[.int .i64 (nz 0).1, .int .i64 ((nz 0).2), .int .i64 v, .int .i64 s] else .agg #[.int .i64 0, .int .i64 0, .int .i64 0, .int .i64 0], .bool (decide (Qok (nz 0).1 ((nz 0).2) v s))]) := ⟨_, rfl⟩
    rw [← hR]
    have HR0 : Hid _ := hR
    clear hR
    go_enter Try.func25, Try.ntmps25
    go_wp2
    skip
    go_loopw [0, 1] (fun a b wr => ∃ (j : Nat) (m : Int), a = .int .i64 m ∧ b = .int .i64 (j : Int) ∧ wr = ((w).alloc (.cells #[.int .i64 0, .int .i64 0, .int .i64 0, .int .i64 0] 25)) ∧ m.natAbs * 2 ^ j ≤ (0 : Int).natAbs ∧ Hid ((nz m).1 = (nz 0).1) ∧ Hid ((j : Int) + (nz m).2 = (nz 0).2)) (fun a _ _ => (intOf a).natAbs)
    case atStart => exact ⟨0, 0, by rfl, by simp, rfl, by omega, rfl, (show ((0 : Nat) : Int) + (nz 0).2 = (nz 0).2 by omega)⟩
    case round =>
      obtain ⟨j, m, rfl, rfl, rfl, hj, h1, h2⟩ := hrel
      by_cases h3 : m ≠ 0 ∧ m.tmod 10 = 0
      · obtain ⟨hm0, h3⟩ := h3
        have hjj := pow_room hm0 hj hn
        have e10 := tdiv_ten h3
        have hmm : -9223372036854775808 ≤ m ∧ m ≤ 9223372036854775807 := by
          have : m.natAbs ≤ (0 : Int).natAbs := Nat.le_trans (Nat.le_mul_of_pos_right _ (Nat.two_pow_pos j)) hj
          omega
        have ns : Hid (nz m = ((nz (m.tdiv 10)).1, (nz (m.tdiv 10)).2 + 1)) := nz_step hm0 h3
        go_wp2
        go_roundw
        case rel =>
          refine ⟨j + 1, m.tdiv 10, by go_num, by go_num, by trivial, pow_next h3 hj, ?_, ?_⟩
          · show (nz (m.tdiv 10)).1 = (nz 0).1
            rw [← h1.out, ns.out]
          · show (((j + 1 : Nat)) : Int) + (nz (m.tdiv 10)).2 = (nz 0).2
            rw [← h2.out, ns.out]
            simp only []
            omega
        case measure =>
          show (m.tdiv 10).natAbs < m.natAbs
          omega
      · have ns := nz_stop h3
        have H1 : Hid (m = (nz 0).1) := by have := h1.out; rw [ns] at this; exact this
        have H2 : Hid ((j : Int) = (nz 0).2) := by have h := h2.out; rw [ns] at h; have : (j : Int) + 0 = (nz 0).2 := h
                                                   show (j : Int) = (nz 0).2
                                                   omega
        clear h1 h2 ns
        by_cases hm0 : m = 0
        · subst hm0
          have RT0 : Hid (R4 (((w).alloc (.cells #[.int .i64 0, .int .i64 0, .int .i64 0, .int .i64 0] 25)).alloc (.cells #[.int .i64 0, .int .i64 (j : Int), .int .i64 v, .int .i64 s] 25)) (w.heap.size + 1) 0 (j : Int) v s) := by have h := R4.new ((w).alloc (.cells #[.int .i64 0, .int .i64 0, .int .i64 0, .int .i64 0] 25)) 25 0 (j : Int) v s; rw [show ((w).alloc (.cells #[.int .i64 0, .int .i64 0, .int .i64 0, .int .i64 0] 25)).heap.size = w.heap.size + 1 by simp] at h; exact h
          by_cases h : Qok 0 (j : Int) v s
          · have HR : Hid ((Value.tuple #[if Qok (nz 0).1 ((nz 0).2) v s then .agg #[.int .i64 (nz 0).1, .int .i64 ((nz 0).2), .int .i64 v, .int .i64 s] else .agg #[.int .i64 0, .int .i64 0, .int .i64 0, .int .i64 0], .bool (decide (Qok (nz 0).1 ((nz 0).2) v s))]) = .tuple #[.agg #[.int .i64 0, .int .i64 (j : Int), .int .i64 v, .int .i64 s], .bool true]) := by
              show (Value.tuple #[if Qok (nz 0).1 ((nz 0).2) v s then .agg #[.int .i64 (nz 0).1, .int .i64 ((nz 0).2), .int .i64 v, .int .i64 s] else .agg #[.int .i64 0, .int .i64 0, .int .i64 0, .int .i64 0], .bool (decide (Qok (nz 0).1 ((nz 0).2) v s))]) = _
              rw [← H1.out, ← H2.out, if_pos h, decide_eq_true h]
            have hd := decide_eq_true h
            clear h
            go_wp2_with (first
            | (go_at_call 14; go_loud ((with_reducible refine (sQok_any _ _ _ _ _).mono ?_); rintro e w2 ⟨rfl, hb⟩; have B0 : Hid (Below w.heap.size w w2) := bstep (bstep (below_one w _) (below_one _ _)) hb; have RT : Hid (R4 w2 (w.heap.size + 1) 0 (j : Int) v s) := RT0.out.call hb; have RZ : Hid (R4 w2 w.heap.size 0 0 0 0) := ((R4.new w 25 0 0 0 0).call (below_one _ _)).call hb; obtain ⟨t0, t1, t2, t3, _⟩ := RT.out; obtain ⟨z0, z1, z2, z3, zf⟩ := RZ.out; have y0 := zf 0; have y1 := zf 1; have y2 := zf 2; have y3 := zf 3; clear zf; rw [hd]; clear hb)))
            have LB : Hid (Below w.heap.size w ((((w2.setCell ⟨w.heap.size, 0, none⟩ (.int .i64 0)).setCell ⟨w.heap.size, 1, none⟩ (.int .i64 (j : Int))).setCell ⟨w.heap.size, 2, none⟩ (.int .i64 v)).setCell ⟨w.heap.size, 3, none⟩ (.int .i64 s))) :=
              (((B0.out.setCell (by simp <;> omega) _).setCell (by simp <;> omega) _).setCell (by simp <;> omega) _).setCell (by simp <;> omega) _
            have LZ := (((RZ.out.put0 0).put1 (j : Int)).put2 v).put3 s
            generalize (((w2.setCell ⟨w.heap.size, 0, none⟩ (.int .i64 0)).setCell ⟨w.heap.size, 1, none⟩ (.int .i64 (j : Int))).setCell ⟨w.heap.size, 2, none⟩ (.int .i64 v)).setCell ⟨w.heap.size, 3, none⟩ (.int .i64 s) = X at LB LZ ⊢
            obtain ⟨k0, k1, k2, k3, _⟩ := LZ
            refine bodyPost_ret (v := .tuple #[.agg #[.int .i64 0, .int .i64 (j : Int), .int .i64 v, .int .i64 s], .bool true]) (by simp [results, Try.results25, go_sem, k0, k1, k2, k3]) rfl ?_
            exact ⟨by rw [HR0.out]; exact congrArg Ending.returned HR.out.symm, LB.out⟩
          · have HR : Hid ((Value.tuple #[if Qok (nz 0).1 ((nz 0).2) v s then .agg #[.int .i64 (nz 0).1, .int .i64 ((nz 0).2), .int .i64 v, .int .i64 s] else .agg #[.int .i64 0, .int .i64 0, .int .i64 0, .int .i64 0], .bool (decide (Qok (nz 0).1 ((nz 0).2) v s))]) = .tuple #[.agg #[.int .i64 0, .int .i64 0, .int .i64 0, .int .i64 0], .bool false]) := by
              show (Value.tuple #[if Qok (nz 0).1 ((nz 0).2) v s then .agg #[.int .i64 (nz 0).1, .int .i64 ((nz 0).2), .int .i64 v, .int .i64 s] else .agg #[.int .i64 0, .int .i64 0, .int .i64 0, .int .i64 0], .bool (decide (Qok (nz 0).1 ((nz 0).2) v s))]) = _
              rw [← H1.out, ← H2.out, if_neg h, decide_eq_false h]
            have hd := decide_eq_false h
            clear h
            go_wp2_with (first
            | (go_at_call 14; go_loud ((with_reducible refine (sQok_any _ _ _ _ _).mono ?_); rintro e w2 ⟨rfl, hb⟩; have B0 : Hid (Below w.heap.size w w2) := bstep (bstep (below_one w _) (below_one _ _)) hb; have RT : Hid (R4 w2 (w.heap.size + 1) 0 (j : Int) v s) := RT0.out.call hb; have RZ : Hid (R4 w2 w.heap.size 0 0 0 0) := ((R4.new w 25 0 0 0 0).call (below_one _ _)).call hb; obtain ⟨t0, t1, t2, t3, _⟩ := RT.out; obtain ⟨z0, z1, z2, z3, zf⟩ := RZ.out; have y0 := zf 0; have y1 := zf 1; have y2 := zf 2; have y3 := zf 3; clear zf; rw [hd]; clear hb)))
            have LB : Hid (Below w.heap.size w ((((w2.setCell ⟨w.heap.size, 0, none⟩ (.int .i64 0)).setCell ⟨w.heap.size, 1, none⟩ (.int .i64 0)).setCell ⟨w.heap.size, 2, none⟩ (.int .i64 0)).setCell ⟨w.heap.size, 3, none⟩ (.int .i64 0))) :=
              (((B0.out.setCell (by simp <;> omega) _).setCell (by simp <;> omega) _).setCell (by simp <;> omega) _).setCell (by simp <;> omega) _
            have LZ := (((RZ.out.put0 0).put1 0).put2 0).put3 0
            generalize (((w2.setCell ⟨w.heap.size, 0, none⟩ (.int .i64 0)).setCell ⟨w.heap.size, 1, none⟩ (.int .i64 0)).setCell ⟨w.heap.size, 2, none⟩ (.int .i64 0)).setCell ⟨w.heap.size, 3, none⟩ (.int .i64 0) = X at LB LZ ⊢
            obtain ⟨k0, k1, k2, k3, _⟩ := LZ
            refine bodyPost_ret (v := .tuple #[.agg #[.int .i64 0, .int .i64 0, .int .i64 0, .int .i64 0], .bool false]) (by simp [results, Try.results25, go_sem, k0, k1, k2, k3]) rfl ?_
            exact ⟨by rw [HR0.out]; exact congrArg Ending.returned HR.out.symm, LB.out⟩
        · have h4 : ¬ m.tmod 10 = 0 := fun h => h3 ⟨hm0, h⟩
          clear h3
          have hc1 : (m != 0) = true := by simp [hm0]
          have hc2 : (m.tmod 10 == 0) = false := by simp [h4]
          have hc3 : (m != 0 && m.tmod 10 == 0) = false := by simp [h4]
          have RT0 : Hid (R4 (((w).alloc (.cells #[.int .i64 0, .int .i64 0, .int .i64 0, .int .i64 0] 25)).alloc (.cells #[.int .i64 m, .int .i64 (j : Int), .int .i64 v, .int .i64 s] 25)) (w.heap.size + 1) m (j : Int) v s) := by have h := R4.new ((w).alloc (.cells #[.int .i64 0, .int .i64 0, .int .i64 0, .int .i64 0] 25)) 25 m (j : Int) v s; rw [show ((w).alloc (.cells #[.int .i64 0, .int .i64 0, .int .i64 0, .int .i64 0] 25)).heap.size = w.heap.size + 1 by simp] at h; exact h
          by_cases h : Qok m (j : Int) v s
          · have HR : Hid ((Value.tuple #[if Qok (nz 0).1 ((nz 0).2) v s then .agg #[.int .i64 (nz 0).1, .int .i64 ((nz 0).2), .int .i64 v, .int .i64 s] else .agg #[.int .i64 0, .int .i64 0, .int .i64 0, .int .i64 0], .bool (decide (Qok (nz 0).1 ((nz 0).2) v s))]) = .tuple #[.agg #[.int .i64 m, .int .i64 (j : Int), .int .i64 v, .int .i64 s], .bool true]) := by
              show (Value.tuple #[if Qok (nz 0).1 ((nz 0).2) v s then .agg #[.int .i64 (nz 0).1, .int .i64 ((nz 0).2), .int .i64 v, .int .i64 s] else .agg #[.int .i64 0, .int .i64 0, .int .i64 0, .int .i64 0], .bool (decide (Qok (nz 0).1 ((nz 0).2) v s))]) = _
              rw [← H1.out, ← H2.out, if_pos h, decide_eq_true h]
            have hd := decide_eq_true h
            clear h
            go_wp2_with (first
            | (go_at_call 14; go_loud ((with_reducible refine (sQok_any _ _ _ _ _).mono ?_); rintro e w2 ⟨rfl, hb⟩; have B0 : Hid (Below w.heap.size w w2) := bstep (bstep (below_one w _) (below_one _ _)) hb; have RT : Hid (R4 w2 (w.heap.size + 1) m (j : Int) v s) := RT0.out.call hb; have RZ : Hid (R4 w2 w.heap.size 0 0 0 0) := ((R4.new w 25 0 0 0 0).call (below_one _ _)).call hb; obtain ⟨t0, t1, t2, t3, _⟩ := RT.out; obtain ⟨z0, z1, z2, z3, zf⟩ := RZ.out; have y0 := zf 0; have y1 := zf 1; have y2 := zf 2; have y3 := zf 3; clear zf; rw [hd]; clear hb)))
            have LB : Hid (Below w.heap.size w ((((w2.setCell ⟨w.heap.size, 0, none⟩ (.int .i64 m)).setCell ⟨w.heap.size, 1, none⟩ (.int .i64 (j : Int))).setCell ⟨w.heap.size, 2, none⟩ (.int .i64 v)).setCell ⟨w.heap.size, 3, none⟩ (.int .i64 s))) :=
              (((B0.out.setCell (by simp <;> omega) _).setCell (by simp <;> omega) _).setCell (by simp <;> omega) _).setCell (by simp <;> omega) _
            have LZ := (((RZ.out.put0 m).put1 (j : Int)).put2 v).put3 s
            generalize (((w2.setCell ⟨w.heap.size, 0, none⟩ (.int .i64 m)).setCell ⟨w.heap.size, 1, none⟩ (.int .i64 (j : Int))).setCell ⟨w.heap.size, 2, none⟩ (.int .i64 v)).setCell ⟨w.heap.size, 3, none⟩ (.int .i64 s) = X at LB LZ ⊢
            obtain ⟨k0, k1, k2, k3, _⟩ := LZ
            refine bodyPost_ret (v := .tuple #[.agg #[.int .i64 m, .int .i64 (j : Int), .int .i64 v, .int .i64 s], .bool true]) (by simp [results, Try.results25, go_sem, k0, k1, k2, k3]) rfl ?_
            exact ⟨by rw [HR0.out]; exact congrArg Ending.returned HR.out.symm, LB.out⟩
          · have HR : Hid ((Value.tuple #[if Qok (nz 0).1 ((nz 0).2) v s then .agg #[.int .i64 (nz 0).1, .int .i64 ((nz 0).2), .int .i64 v, .int .i64 s] else .agg #[.int .i64 0, .int .i64 0, .int .i64 0, .int .i64 0], .bool (decide (Qok (nz 0).1 ((nz 0).2) v s))]) = .tuple #[.agg #[.int .i64 0, .int .i64 0, .int .i64 0, .int .i64 0], .bool false]) := by
              show (Value.tuple #[if Qok (nz 0).1 ((nz 0).2) v s then .agg #[.int .i64 (nz 0).1, .int .i64 ((nz 0).2), .int .i64 v, .int .i64 s] else .agg #[.int .i64 0, .int .i64 0, .int .i64 0, .int .i64 0], .bool (decide (Qok (nz 0).1 ((nz 0).2) v s))]) = _
              rw [← H1.out, ← H2.out, if_neg h, decide_eq_false h]
            have hd := decide_eq_false h
            clear h
            go_wp2_with (first
            | (go_at_call 14; go_loud ((with_reducible refine (sQok_any _ _ _ _ _).mono ?_); rintro e w2 ⟨rfl, hb⟩; have B0 : Hid (Below w.heap.size w w2) := bstep (bstep (below_one w _) (below_one _ _)) hb; have RT : Hid (R4 w2 (w.heap.size + 1) m (j : Int) v s) := RT0.out.call hb; have RZ : Hid (R4 w2 w.heap.size 0 0 0 0) := ((R4.new w 25 0 0 0 0).call (below_one _ _)).call hb; obtain ⟨t0, t1, t2, t3, _⟩ := RT.out; obtain ⟨z0, z1, z2, z3, zf⟩ := RZ.out; have y0 := zf 0; have y1 := zf 1; have y2 := zf 2; have y3 := zf 3; clear zf; rw [hd]; clear hb)))
            have LB : Hid (Below w.heap.size w ((((w2.setCell ⟨w.heap.size, 0, none⟩ (.int .i64 0)).setCell ⟨w.heap.size, 1, none⟩ (.int .i64 0)).setCell ⟨w.heap.size, 2, none⟩ (.int .i64 0)).setCell ⟨w.heap.size, 3, none⟩ (.int .i64 0))) :=
              (((B0.out.setCell (by simp <;> omega) _).setCell (by simp <;> omega) _).setCell (by simp <;> omega) _).setCell (by simp <;> omega) _
            have LZ := (((RZ.out.put0 0).put1 0).put2 0).put3 0
            generalize (((w2.setCell ⟨w.heap.size, 0, none⟩ (.int .i64 0)).setCell ⟨w.heap.size, 1, none⟩ (.int .i64 0)).setCell ⟨w.heap.size, 2, none⟩ (.int .i64 0)).setCell ⟨w.heap.size, 3, none⟩ (.int .i64 0) = X at LB LZ ⊢
            obtain ⟨k0, k1, k2, k3, _⟩ := LZ
            refine bodyPost_ret (v := .tuple #[.agg #[.int .i64 0, .int .i64 0, .int .i64 0, .int .i64 0], .bool false]) (by simp [results, Try.results25, go_sem, k0, k1, k2, k3]) rfl ?_
            exact ⟨by rw [HR0.out]; exact congrArg Ending.returned HR.out.symm, LB.out⟩
  · rw [show pz n p = p + (nz n).2 from if_neg h0]
    obtain ⟨R, hR⟩ : ∃ R, R = (Value.tuple #[if Qok (nz n).1 (p + (nz n).2) v s then .agg #[.int .i64 (nz n).1, .int .i64 (p + (nz n).2), .int .i64 v, .int .i64 s] else .agg #[.int .i64 0, .int .i64 0, .int .i64 0, .int .i64 0], .bool (decide (Qok (nz n).1 (p + (nz n).2) v s))]) := ⟨_, rfl⟩
    rw [← hR]
    have HR0 : Hid _ := hR
    clear hR
    go_enter Try.func25, Try.ntmps25
    go_wp2
    generalize hbb : (n == 0) = bb
    clear hbb h0
    go_loopw [0, 1] (fun a b wr => ∃ (j : Nat) (m : Int), a = .int .i64 m ∧ b = .int .i64 (p + j) ∧ wr = ((w).alloc (.cells #[.int .i64 0, .int .i64 0, .int .i64 0, .int .i64 0] 25)) ∧ m.natAbs * 2 ^ j ≤ n.natAbs ∧ Hid ((nz m).1 = (nz n).1) ∧ Hid ((j : Int) + (nz m).2 = (nz n).2)) (fun a _ _ => (intOf a).natAbs)
    case atStart => exact ⟨0, n, by rfl, by simp, rfl, by omega, rfl, (show ((0 : Nat) : Int) + (nz n).2 = (nz n).2 by omega)⟩
    case round =>
      obtain ⟨j, m, rfl, rfl, rfl, hj, h1, h2⟩ := hrel
      by_cases h3 : m ≠ 0 ∧ m.tmod 10 = 0
      · obtain ⟨hm0, h3⟩ := h3
        have hjj := pow_room hm0 hj hn
        have e10 := tdiv_ten h3
        have hmm : -9223372036854775808 ≤ m ∧ m ≤ 9223372036854775807 := by
          have : m.natAbs ≤ n.natAbs := Nat.le_trans (Nat.le_mul_of_pos_right _ (Nat.two_pow_pos j)) hj
          omega
        have ns : Hid (nz m = ((nz (m.tdiv 10)).1, (nz (m.tdiv 10)).2 + 1)) := nz_step hm0 h3
        go_wp2
        go_roundw
        case rel =>
          refine ⟨j + 1, m.tdiv 10, by go_num, by go_num, by trivial, pow_next h3 hj, ?_, ?_⟩
          · show (nz (m.tdiv 10)).1 = (nz n).1
            rw [← h1.out, ns.out]
          · show (((j + 1 : Nat)) : Int) + (nz (m.tdiv 10)).2 = (nz n).2
            rw [← h2.out, ns.out]
            simp only []
            omega
        case measure =>
          show (m.tdiv 10).natAbs < m.natAbs
          omega
      · have ns := nz_stop h3
        have H1 : Hid (m = (nz n).1) := by have := h1.out; rw [ns] at this; exact this
        have H2 : Hid ((j : Int) = (nz n).2) := by have h := h2.out; rw [ns] at h; have : (j : Int) + 0 = (nz n).2 := h
                                                   show (j : Int) = (nz n).2
                                                   omega
        clear h1 h2 ns
        by_cases hm0 : m = 0
        · subst hm0
          have RT0 : Hid (R4 (((w).alloc (.cells #[.int .i64 0, .int .i64 0, .int .i64 0, .int .i64 0] 25)).alloc (.cells #[.int .i64 0, .int .i64 (p + j), .int .i64 v, .int .i64 s] 25)) (w.heap.size + 1) 0 (p + j) v s) := by have h := R4.new ((w).alloc (.cells #[.int .i64 0, .int .i64 0, .int .i64 0, .int .i64 0] 25)) 25 0 (p + j) v s; rw [show ((w).alloc (.cells #[.int .i64 0, .int .i64 0, .int .i64 0, .int .i64 0] 25)).heap.size = w.heap.size + 1 by simp] at h; exact h
          by_cases h : Qok 0 (p + j) v s
          · have HR : Hid ((Value.tuple #[if Qok (nz n).1 (p + (nz n).2) v s then .agg #[.int .i64 (nz n).1, .int .i64 (p + (nz n).2), .int .i64 v, .int .i64 s] else .agg #[.int .i64 0, .int .i64 0, .int .i64 0, .int .i64 0], .bool (decide (Qok (nz n).1 (p + (nz n).2) v s))]) = .tuple #[.agg #[.int .i64 0, .int .i64 (p + j), .int .i64 v, .int .i64 s], .bool true]) := by
              show (Value.tuple #[if Qok (nz n).1 (p + (nz n).2) v s then .agg #[.int .i64 (nz n).1, .int .i64 (p + (nz n).2), .int .i64 v, .int .i64 s] else .agg #[.int .i64 0, .int .i64 0, .int .i64 0, .int .i64 0], .bool (decide (Qok (nz n).1 (p + (nz n).2) v s))]) = _
              rw [← H1.out, ← H2.out, if_pos h, decide_eq_true h]
            have hd := decide_eq_true h
            clear h
            go_wp2_with (first
            | (go_at_call 14; go_loud ((with_reducible refine (sQok_any _ _ _ _ _).mono ?_); rintro e w2 ⟨rfl, hb⟩; have B0 : Hid (Below w.heap.size w w2) := bstep (bstep (below_one w _) (below_one _ _)) hb; have RT : Hid (R4 w2 (w.heap.size + 1) 0 (p + j) v s) := RT0.out.call hb; have RZ : Hid (R4 w2 w.heap.size 0 0 0 0) := ((R4.new w 25 0 0 0 0).call (below_one _ _)).call hb; obtain ⟨t0, t1, t2, t3, _⟩ := RT.out; obtain ⟨z0, z1, z2, z3, zf⟩ := RZ.out; have y0 := zf 0; have y1 := zf 1; have y2 := zf 2; have y3 := zf 3; clear zf; rw [hd]; clear hb)))
            have LB : Hid (Below w.heap.size w ((((w2.setCell ⟨w.heap.size, 0, none⟩ (.int .i64 0)).setCell ⟨w.heap.size, 1, none⟩ (.int .i64 (p + j))).setCell ⟨w.heap.size, 2, none⟩ (.int .i64 v)).setCell ⟨w.heap.size, 3, none⟩ (.int .i64 s))) :=
              (((B0.out.setCell (by simp <;> omega) _).setCell (by simp <;> omega) _).setCell (by simp <;> omega) _).setCell (by simp <;> omega) _
            have LZ := (((RZ.out.put0 0).put1 (p + j)).put2 v).put3 s
            generalize (((w2.setCell ⟨w.heap.size, 0, none⟩ (.int .i64 0)).setCell ⟨w.heap.size, 1, none⟩ (.int .i64 (p + j))).setCell ⟨w.heap.size, 2, none⟩ (.int .i64 v)).setCell ⟨w.heap.size, 3, none⟩ (.int .i64 s) = X at LB LZ ⊢
            obtain ⟨k0, k1, k2, k3, _⟩ := LZ
            refine bodyPost_ret (v := .tuple #[.agg #[.int .i64 0, .int .i64 (p + j), .int .i64 v, .int .i64 s], .bool true]) (by simp [results, Try.results25, go_sem, k0, k1, k2, k3]) rfl ?_
            exact ⟨by rw [HR0.out]; exact congrArg Ending.returned HR.out.symm, LB.out⟩
          · have HR : Hid ((Value.tuple #[if Qok (nz n).1 (p + (nz n).2) v s then .agg #[.int .i64 (nz n).1, .int .i64 (p + (nz n).2), .int .i64 v, .int .i64 s] else .agg #[.int .i64 0, .int .i64 0, .int .i64 0, .int .i64 0], .bool (decide (Qok (nz n).1 (p + (nz n).2) v s))]) = .tuple #[.agg #[.int .i64 0, .int .i64 0, .int .i64 0, .int .i64 0], .bool false]) := by
              show (Value.tuple #[if Qok (nz n).1 (p + (nz n).2) v s then .agg #[.int .i64 (nz n).1, .int .i64 (p + (nz n).2), .int .i64 v, .int .i64 s] else .agg #[.int .i64 0, .int .i64 0, .int .i64 0, .int .i64 0], .bool (decide (Qok (nz n).1 (p + (nz n).2) v s))]) = _
              rw [← H1.out, ← H2.out, if_neg h, decide_eq_false h]
            have hd := decide_eq_false h
            clear h
            go_wp2_with (first
            | (go_at_call 14; go_loud ((with_reducible refine (sQok_any _ _ _ _ _).mono ?_); rintro e w2 ⟨rfl, hb⟩; have B0 : Hid (Below w.heap.size w w2) := bstep (bstep (below_one w _) (below_one _ _)) hb; have RT : Hid (R4 w2 (w.heap.size + 1) 0 (p + j) v s) := RT0.out.call hb; have RZ : Hid (R4 w2 w.heap.size 0 0 0 0) := ((R4.new w 25 0 0 0 0).call (below_one _ _)).call hb; obtain ⟨t0, t1, t2, t3, _⟩ := RT.out; obtain ⟨z0, z1, z2, z3, zf⟩ := RZ.out; have y0 := zf 0; have y1 := zf 1; have y2 := zf 2; have y3 := zf 3; clear zf; rw [hd]; clear hb)))
            have LB : Hid (Below w.heap.size w ((((w2.setCell ⟨w.heap.size, 0, none⟩ (.int .i64 0)).setCell ⟨w.heap.size, 1, none⟩ (.int .i64 0)).setCell ⟨w.heap.size, 2, none⟩ (.int .i64 0)).setCell ⟨w.heap.size, 3, none⟩ (.int .i64 0))) :=
              (((B0.out.setCell (by simp <;> omega) _).setCell (by simp <;> omega) _).setCell (by simp <;> omega) _).setCell (by simp <;> omega) _
            have LZ := (((RZ.out.put0 0).put1 0).put2 0).put3 0
            generalize (((w2.setCell ⟨w.heap.size, 0, none⟩ (.int .i64 0)).setCell ⟨w.heap.size, 1, none⟩ (.int .i64 0)).setCell ⟨w.heap.size, 2, none⟩ (.int .i64 0)).setCell ⟨w.heap.size, 3, none⟩ (.int .i64 0) = X at LB LZ ⊢
            obtain ⟨k0, k1, k2, k3, _⟩ := LZ
            refine bodyPost_ret (v := .tuple #[.agg #[.int .i64 0, .int .i64 0, .int .i64 0, .int .i64 0], .bool false]) (by simp [results, Try.results25, go_sem, k0, k1, k2, k3]) rfl ?_
            exact ⟨by rw [HR0.out]; exact congrArg Ending.returned HR.out.symm, LB.out⟩
        · have h4 : ¬ m.tmod 10 = 0 := fun h => h3 ⟨hm0, h⟩
          clear h3
          have hc1 : (m != 0) = true := by simp [hm0]
          have hc2 : (m.tmod 10 == 0) = false := by simp [h4]
          have hc3 : (m != 0 && m.tmod 10 == 0) = false := by simp [h4]
          have RT0 : Hid (R4 (((w).alloc (.cells #[.int .i64 0, .int .i64 0, .int .i64 0, .int .i64 0] 25)).alloc (.cells #[.int .i64 m, .int .i64 (p + j), .int .i64 v, .int .i64 s] 25)) (w.heap.size + 1) m (p + j) v s) := by have h := R4.new ((w).alloc (.cells #[.int .i64 0, .int .i64 0, .int .i64 0, .int .i64 0] 25)) 25 m (p + j) v s; rw [show ((w).alloc (.cells #[.int .i64 0, .int .i64 0, .int .i64 0, .int .i64 0] 25)).heap.size = w.heap.size + 1 by simp] at h; exact h
          by_cases h : Qok m (p + j) v s
          · have HR : Hid ((Value.tuple #[if Qok (nz n).1 (p + (nz n).2) v s then .agg #[.int .i64 (nz n).1, .int .i64 (p + (nz n).2), .int .i64 v, .int .i64 s] else .agg #[.int .i64 0, .int .i64 0, .int .i64 0, .int .i64 0], .bool (decide (Qok (nz n).1 (p + (nz n).2) v s))]) = .tuple #[.agg #[.int .i64 m, .int .i64 (p + j), .int .i64 v, .int .i64 s], .bool true]) := by
              show (Value.tuple #[if Qok (nz n).1 (p + (nz n).2) v s then .agg #[.int .i64 (nz n).1, .int .i64 (p + (nz n).2), .int .i64 v, .int .i64 s] else .agg #[.int .i64 0, .int .i64 0, .int .i64 0, .int .i64 0], .bool (decide (Qok (nz n).1 (p + (nz n).2) v s))]) = _
              rw [← H1.out, ← H2.out, if_pos h, decide_eq_true h]
            have hd := decide_eq_true h
            clear h
            go_wp2_with (first
            | (go_at_call 14; go_loud ((with_reducible refine (sQok_any _ _ _ _ _).mono ?_); rintro e w2 ⟨rfl, hb⟩; have B0 : Hid (Below w.heap.size w w2) := bstep (bstep (below_one w _) (below_one _ _)) hb; have RT : Hid (R4 w2 (w.heap.size + 1) m (p + j) v s) := RT0.out.call hb; have RZ : Hid (R4 w2 w.heap.size 0 0 0 0) := ((R4.new w 25 0 0 0 0).call (below_one _ _)).call hb; obtain ⟨t0, t1, t2, t3, _⟩ := RT.out; obtain ⟨z0, z1, z2, z3, zf⟩ := RZ.out; have y0 := zf 0; have y1 := zf 1; have y2 := zf 2; have y3 := zf 3; clear zf; rw [hd]; clear hb)))
            have LB : Hid (Below w.heap.size w ((((w2.setCell ⟨w.heap.size, 0, none⟩ (.int .i64 m)).setCell ⟨w.heap.size, 1, none⟩ (.int .i64 (p + j))).setCell ⟨w.heap.size, 2, none⟩ (.int .i64 v)).setCell ⟨w.heap.size, 3, none⟩ (.int .i64 s))) :=
              (((B0.out.setCell (by simp <;> omega) _).setCell (by simp <;> omega) _).setCell (by simp <;> omega) _).setCell (by simp <;> omega) _
            have LZ := (((RZ.out.put0 m).put1 (p + j)).put2 v).put3 s
            generalize (((w2.setCell ⟨w.heap.size, 0, none⟩ (.int .i64 m)).setCell ⟨w.heap.size, 1, none⟩ (.int .i64 (p + j))).setCell ⟨w.heap.size, 2, none⟩ (.int .i64 v)).setCell ⟨w.heap.size, 3, none⟩ (.int .i64 s) = X at LB LZ ⊢
            obtain ⟨k0, k1, k2, k3, _⟩ := LZ
            refine bodyPost_ret (v := .tuple #[.agg #[.int .i64 m, .int .i64 (p + j), .int .i64 v, .int .i64 s], .bool true]) (by simp [results, Try.results25, go_sem, k0, k1, k2, k3]) rfl ?_
            exact ⟨by rw [HR0.out]; exact congrArg Ending.returned HR.out.symm, LB.out⟩
          · have HR : Hid ((Value.tuple #[if Qok (nz n).1 (p + (nz n).2) v s then .agg #[.int .i64 (nz n).1, .int .i64 (p + (nz n).2), .int .i64 v, .int .i64 s] else .agg #[.int .i64 0, .int .i64 0, .int .i64 0, .int .i64 0], .bool (decide (Qok (nz n).1 (p + (nz n).2) v s))]) = .tuple #[.agg #[.int .i64 0, .int .i64 0, .int .i64 0, .int .i64 0], .bool false]) := by
              show (Value.tuple #[if Qok (nz n).1 (p + (nz n).2) v s then .agg #[.int .i64 (nz n).1, .int .i64 (p + (nz n).2), .int .i64 v, .int .i64 s] else .agg #[.int .i64 0, .int .i64 0, .int .i64 0, .int .i64 0], .bool (decide (Qok (nz n).1 (p + (nz n).2) v s))]) = _
              rw [← H1.out, ← H2.out, if_neg h, decide_eq_false h]
            have hd := decide_eq_false h
            clear h
            go_wp2_with (first
            | (go_at_call 14; go_loud ((with_reducible refine (sQok_any _ _ _ _ _).mono ?_); rintro e w2 ⟨rfl, hb⟩; have B0 : Hid (Below w.heap.size w w2) := bstep (bstep (below_one w _) (below_one _ _)) hb; have RT : Hid (R4 w2 (w.heap.size + 1) m (p + j) v s) := RT0.out.call hb; have RZ : Hid (R4 w2 w.heap.size 0 0 0 0) := ((R4.new w 25 0 0 0 0).call (below_one _ _)).call hb; obtain ⟨t0, t1, t2, t3, _⟩ := RT.out; obtain ⟨z0, z1, z2, z3, zf⟩ := RZ.out; have y0 := zf 0; have y1 := zf 1; have y2 := zf 2; have y3 := zf 3; clear zf; rw [hd]; clear hb)))
            have LB : Hid (Below w.heap.size w ((((w2.setCell ⟨w.heap.size, 0, none⟩ (.int .i64 0)).setCell ⟨w.heap.size, 1, none⟩ (.int .i64 0)).setCell ⟨w.heap.size, 2, none⟩ (.int .i64 0)).setCell ⟨w.heap.size, 3, none⟩ (.int .i64 0))) :=
              (((B0.out.setCell (by simp <;> omega) _).setCell (by simp <;> omega) _).setCell (by simp <;> omega) _).setCell (by simp <;> omega) _
            have LZ := (((RZ.out.put0 0).put1 0).put2 0).put3 0
            generalize (((w2.setCell ⟨w.heap.size, 0, none⟩ (.int .i64 0)).setCell ⟨w.heap.size, 1, none⟩ (.int .i64 0)).setCell ⟨w.heap.size, 2, none⟩ (.int .i64 0)).setCell ⟨w.heap.size, 3, none⟩ (.int .i64 0) = X at LB LZ ⊢
            obtain ⟨k0, k1, k2, k3, _⟩ := LZ
            refine bodyPost_ret (v := .tuple #[.agg #[.int .i64 0, .int .i64 0, .int .i64 0, .int .i64 0], .bool false]) (by simp [results, Try.results25, go_sem, k0, k1, k2, k3]) rfl ?_
            exact ⟨by rw [HR0.out]; exact congrArg Ending.returned HR.out.symm, LB.out⟩

end Go.Proofs.Ytonjgielpcofeaa
