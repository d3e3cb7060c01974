/- FnFixed. -/
import Derived.Test.YtnabpijackgmnaaE2
import Derived.Test.YtnabpijackgmnaaB5
import Derived.Test.YtnabpijackgmnaaA6
namespace Go.Proofs.Ytnabpijackgmnaa
open Go.RowKit

theorem clp_id {x P : Int} (h0 : -P ≤ x) (h1 : x ≤ P - 1) : clp x P = x := by
  unfold clp
  rw [if_neg (by omega), if_neg (by omega)]

theorem clp_clp {x P : Int} (hP : 1 ≤ P) : clp (clp x P) P = clp x P := clp_id (clp_bounds hP).1 (clp_bounds hP).2

theorem es_word {xs ys : Nat → Int} {f b c : Int} (hP : 1 ≤ hf b) : ∀ n, clp (es xs ys f b c n) (hf b) = es xs ys f b c n
  | 0 => clp_id (by simp only [es]; omega) (by simp only [es]; omega)
  | n + 1 => clp_clp hP

/-- What is told of a drawn pair of lists. -/
theorem dot_facts (n m : Nat) (xs ys : Nat → Int) (f b c : Int) : ∃ X Y : Int, (GD n m xs ys f b c → dfv n xs ys f b c false = X) ∧ (¬ GD n m xs ys f b c → 0 = X) ∧ (GD n m xs ys f b c → dfv n xs ys f b c true = Y) ∧ (¬ GD n m xs ys f b c → 0 = Y) ∧ (1 ≤ b ∧ b ≤ 24 → clV X b = X ∧ clV Y b = Y) ∧ (n = 1 ∧ m = 1 → mfV (xs 0) (ys 0) f b c = X ∧ X = Y) := by
  by_cases h : GD n m xs ys f b c
  · refine ⟨_, _, fun _ => rfl, fun h' => absurd h h', fun _ => rfl, fun h' => absurd h h', fun hb => ?_, fun h1 => ?_⟩
    · have hP : 1 ≤ hf b := (half_bounds hb).1
      rw [← clV_yes hb, ← clV_yes hb]
      refine ⟨?_, ?_⟩
      · show clp (clp _ _) _ = clp _ _
        exact clp_clp hP
      · show clp (es _ _ _ _ _ _) _ = es _ _ _ _ _ _
        exact es_word hP n
    · obtain ⟨rfl, rfl⟩ := h1
      have hP : 1 ≤ hf b := (half_bounds h.1.2.1).1
      rw [← mfV_yes ⟨h.1, h.2.2.2.1 0 (by omega), h.2.2.2.2 0 (by omega)⟩]
      refine ⟨?_, ?_⟩
      · show clp (shV (xs 0 * ys 0) f c) (hf b) = clp (shV (ps xs ys 1) f c) (hf b)
        simp only [ps, Int.zero_add]
      · show clp (shV (ps xs ys 1) f c) (hf b) = es xs ys f b c 1
        simp only [ps, es, Int.zero_add]
        exact (clp_clp hP).symm
  · refine ⟨0, 0, fun h' => absurd h' h, fun _ => rfl, fun h' => absurd h' h, fun _ => rfl, fun hb => ?_, fun h1 => ?_⟩
    · have hP : 1 ≤ hf b := (half_bounds hb).1
      have e : clV 0 b = 0 := by rw [← clV_yes hb]; exact clp_id (by omega) (by omega)
      exact ⟨e, e⟩
    · obtain ⟨rfl, rfl⟩ := h1
      refine ⟨(mfV_no (fun h' => h ⟨h'.1, rfl, by omega, fun k hk => ?_, fun k hk => ?_⟩)).symm, rfl⟩
      · obtain rfl : k = 0 := by omega
        exact h'.2.1
      · obtain rfl : k = 0 := by omega
        exact h'.2.2

theorem mfV_127 : mfV 100 100 4 8 1 = 127 := by decide +kernel
theorem clV_128 : clV (-200) 8 = -128 := by decide +kernel

set_option maxRecDepth 50000 in
set_option maxHeartbeats 8000000 in
theorem walk_fixed {w : World} {a : Option Addr} {N0 cap : Nat} (hr : Row w a N0) (hn : N0 ≤ 9223372036854775807) : Calls Try.prog 5 #[.slice a N0 cap] w fun e w' => e = .returned (.bool true) ∧ Below w.heap.size w w' := by
  have hz := fun W => big_x (w := W) a N0 cap hn
  by_cases h : N0 ≤ 1048576
  · rw [decide_eq_false (show ¬ (1048576 : Int) < (N0 : Int) by omega)] at hz
    have hd := ddot_x (cap := cap) hr h
    have iM := iMul_any 100 100 4 8 1
    have iC := iClip_any (-200) 8
    rw [mfV_127] at iM
    rw [clV_128] at iC
    clear hr
    go_enter Try.func5, Try.ntmps5
    go_upto_region 4 with (first | (go_at_call 8; (with_reducible refine (hz _).mono ?_); rintro e w' ⟨rfl, hw⟩; obtain rfl := hw.symm) | (go_at_call 15; refine hd.mono ?_; rintro e x0 ⟨u1, u2, n, m, xs, ys, f, b, c, t, rfl, hn1, hm1, hf1, hf2, hb⟩; have FA0 : Hid (Il x0 u1 n xs) := hf1; have FB0 : Hid (Il x0 u2 m ys) := hf2; have BB0 : Hid (Below w.heap.size w x0) := hb; clear hb hf1 hf2))
    obtain ⟨X, Y, gx, bx, gy, by', hcl, h11⟩ := dot_facts n m xs ys f b c
    have I0 : Hid (∀ W u v, Il W u n xs → Il W v m ys → Calls Try.prog 16 #[u, v, .int .i64 f, .int .i64 b, .int .i64 c, .bool false] W fun e w' => e = .returned (.int .i64 X) ∧ Below W.heap.size W w') := fun W u v h1 h2 => iDot_any h1 h2 (by omega) (by omega) X gx bx
    have I1 : Hid (∀ W u v, Il W u n xs → Il W v m ys → Calls Try.prog 16 #[u, v, .int .i64 f, .int .i64 b, .int .i64 c, .bool true] W fun e w' => e = .returned (.int .i64 Y) ∧ Below W.heap.size W w') := fun W u v h1 h2 => iDot_any h1 h2 (by omega) (by omega) Y gy by'
    have S0 : Hid (∀ W u v, Il W u n xs → Il W v m ys → Calls Try.prog 17 #[u, v, .int .i64 f, .int .i64 b, .int .i64 c, .bool false] W fun e w' => e = .returned (.int .i64 X) ∧ Below W.heap.size W w') := fun W u v h1 h2 => sDot_any h1 h2 (by omega) (by omega) X gx bx
    have S1 : Hid (∀ W u v, Il W u n xs → Il W v m ys → Calls Try.prog 17 #[u, v, .int .i64 f, .int .i64 b, .int .i64 c, .bool true] W fun e w' => e = .returned (.int .i64 Y) ∧ Below W.heap.size W w') := fun W u v h1 h2 => sDot_any h1 h2 (by omega) (by omega) Y gy by'
    have H11 : Hid (n = 1 ∧ m = 1 → mfV (xs 0) (ys 0) f b c = X ∧ X = Y) := h11
    clear gx bx gy by' h11 hz hd
    have F1' := FA0.out
    have F2' := FB0.out
    obtain ⟨ao, cp, rfl, _, hcell⟩ := F1'
    obtain ⟨bo, cq, rfl, _, hcell'⟩ := F2'
    clear hcell hcell'
    by_cases hb : 1 ≤ b ∧ b ≤ 24
    · obtain ⟨cX, cY⟩ := hcl hb
      have iX := iClip_any X b
      have iY := iClip_any Y b
      rw [cX] at iX
      rw [cY] at iY
      clear hcl cX cY
      go_upto_region 10 with (first | (go_at_call 16; (fail_if_success have := M1); refine (I0.out _ _ _ FA0.out FB0.out).mono ?_; rintro e x1 ⟨rfl, hb⟩; have M1 : Hid True := trivial; have BB1 : Hid (Below w.heap.size w x1) := bstep BB0.out hb; have FA1 : Hid (Il x1 (.slice ao n cp) n xs) := Il.below FA0.out hb; have FB1 : Hid (Il x1 (.slice bo m cq) m ys) := Il.below FB0.out hb; clear hb) | (go_at_call 16; have Z := M1; (fail_if_success have := M2); refine (I1.out _ _ _ FA1.out FB1.out).mono ?_; rintro e x2 ⟨rfl, hb⟩; have M2 : Hid True := trivial; have BB2 : Hid (Below w.heap.size w x2) := bstep BB1.out hb; have FA2 : Hid (Il x2 (.slice ao n cp) n xs) := Il.below FA1.out hb; have FB2 : Hid (Il x2 (.slice bo m cq) m ys) := Il.below FB1.out hb; clear hb) | (go_at_call 17; have Z := M2; (fail_if_success have := M3); refine (S0.out _ _ _ FA2.out FB2.out).mono ?_; rintro e x3 ⟨rfl, hb⟩; have M3 : Hid True := trivial; have BB3 : Hid (Below w.heap.size w x3) := bstep BB2.out hb; have FA3 : Hid (Il x3 (.slice ao n cp) n xs) := Il.below FA2.out hb; have FB3 : Hid (Il x3 (.slice bo m cq) m ys) := Il.below FB2.out hb; clear hb) | (go_at_call 17; have Z := M3; (fail_if_success have := M4); refine (S1.out _ _ _ FA3.out FB3.out).mono ?_; rintro e x4 ⟨rfl, hb⟩; have M4 : Hid True := trivial; have BB4 : Hid (Below w.heap.size w x4) := bstep BB3.out hb; have FA4 : Hid (Il x4 (.slice ao n cp) n xs) := Il.below FA3.out hb; have FB4 : Hid (Il x4 (.slice bo m cq) m ys) := Il.below FB3.out hb; clear hb) | (go_at_call 18; have Z := M4; (fail_if_success have := M5); (with_reducible refine (iX _).mono ?_); rintro e x5 ⟨rfl, hb⟩; have M5 : Hid True := trivial; have BB5 : Hid (Below w.heap.size w x5) := bstep BB4.out hb; have FA5 : Hid (Il x5 (.slice ao n cp) n xs) := Il.below FA4.out hb; have FB5 : Hid (Il x5 (.slice bo m cq) m ys) := Il.below FB4.out hb; clear hb) | (go_at_call 18; have Z := M5; (fail_if_success have := M6); (with_reducible refine (iY _).mono ?_); rintro e x6 ⟨rfl, hb⟩; have M6 : Hid True := trivial; have BB6 : Hid (Below w.heap.size w x6) := bstep BB5.out hb; have FA6 : Hid (Il x6 (.slice ao n cp) n xs) := Il.below FA5.out hb; have FB6 : Hid (Il x6 (.slice bo m cq) m ys) := Il.below FB5.out hb; clear hb))
      by_cases h1 : n = 1
      · by_cases h2 : m = 1
        · subst h1
          subst h2
          obtain ⟨eX, eY⟩ := H11.out ⟨rfl, rfl⟩
          have i7 := iMul_any (xs 0) (ys 0) f b c
          rw [eX] at i7
          obtain ⟨ao1, cp1, e1, _, hc1⟩ := FA6.out
          obtain ⟨bo1, cq1, e2, _, hc2⟩ := FB6.out
          injection e1 with e11 e12 e13
          injection e2 with e21 e22 e23
          subst e11 e13 e21 e23
          clear e12 e22
          obtain ⟨b1, off1, rfl, hlt1, hcell1⟩ := hc1 (by omega)
          obtain ⟨b2, off2, rfl, hlt2, hcell2⟩ := hc2 (by omega)
          have ra : ∀ Z, Below x6.heap.size x6 Z → Z.cell? ⟨b1, off1, none⟩ = some (.int .i64 (xs 0)) ∧ Z.cell? ⟨b2, off2, none⟩ = some (.int .i64 (ys 0)) := fun Z hZ => ⟨keepc hZ (hcell1 0 (by omega)), keepc hZ (hcell2 0 (by omega))⟩
          clear hcell1 hcell2 hc1 hc2
          have l0 : Below x6.heap.size x6 x6.drew := (Below.refl _ _).drew
          go_upto_region 11 with fail
          refine wp_region_any (by kernel_rfl) ?_
          change wpAny _ _ _ _ _ _ _ (World.drew _)
          refine wpI_any (I := fun Z => Below x6.heap.size x6 Z) _ _ _ _ ?_
          refine wpI_take (i := 0) (v := ?_) rfl (by kernel_rfl) (by kernel_rfl) (by kernel_rfl) (fun _ _ _ h => h) ⟨by rfl, ?_⟩ ?_
          rotate_left
          · intro X hI; go_simp; with_reducible rfl
          refine wpI_take (i := 1) (v := ?_) rfl (by kernel_rfl) (by kernel_rfl) (by kernel_rfl) (fun _ _ _ h => h) ⟨by rfl, ?_⟩ ?_
          rotate_left
          · intro X hI; go_simp; with_reducible rfl
          refine wpI_take (i := 2) (v := ?_) rfl (by kernel_rfl) (by kernel_rfl) (by kernel_rfl) (fun _ _ _ h => h) ⟨by rfl, ?_⟩ ?_
          rotate_left
          · intro X hI; obtain ⟨q1, q2⟩ := ra X hI; go_simp; with_reducible rfl
          refine wpI_take (i := 3) (v := ?_) rfl (by kernel_rfl) (by kernel_rfl) (by kernel_rfl) (fun _ _ _ h => h) ⟨by rfl, ?_⟩ ?_
          rotate_left
          · intro X hI; go_simp; with_reducible rfl
          refine wpI_take (i := 4) (v := ?_) rfl (by kernel_rfl) (by kernel_rfl) (by kernel_rfl) (fun _ _ _ h => h) ⟨by rfl, ?_⟩ ?_
          rotate_left
          · intro X hI; go_simp; with_reducible rfl
          refine wpI_take (i := 5) (v := ?_) rfl (by kernel_rfl) (by kernel_rfl) (by kernel_rfl) (fun _ _ _ h => h) ⟨by rfl, ?_⟩ ?_
          rotate_left
          · intro X hI; obtain ⟨q1, q2⟩ := ra X hI; go_simp; with_reducible rfl
          refine wpI_take (i := 6) (v := ?_) rfl (by kernel_rfl) (by kernel_rfl) (by kernel_rfl) (fun _ _ _ h => h) ⟨by rfl, ?_⟩ ?_
          rotate_left
          · intro X hI; go_simp; with_reducible rfl
          refine wpI_take (i := 7) (v := ?_) rfl (by kernel_rfl) (by kernel_rfl) (by kernel_rfl) (fun _ _ _ h => h) ⟨by rfl, ?_⟩ ?_
          rotate_left
          · intro X hI; go_simp; with_reducible rfl
          refine wpI_take (i := 8) (v := ?_) rfl (by kernel_rfl) (by kernel_rfl) (by kernel_rfl) (fun _ _ _ h => h) ⟨by rfl, ?_⟩ ?_
          rotate_left
          · intro X hI; go_simp; with_reducible rfl
          refine wpI_only (i := 9) rfl (by kernel_rfl) l0 (by rfl) ?_
          intro K hK
          go_simp
          go_wp2_with (go_at_call 19; (with_reducible refine (i7 _).mono ?_); rintro e x7 ⟨rfl, hb7⟩; have l1 := bstep l0 hb7)
          refine wpI_only (i := 10) rfl (by kernel_rfl) l1 (by rfl) ?_
          intro K hK
          go_simp
          refine hK _ _ ?_
          refine wpI_done l1 (by kernel_rfl) ?_ _
          subst eY
          go_wp2_with (first | (go_at_call 19; (with_reducible refine (iM _).mono ?_); rintro e x8 ⟨rfl, hb8⟩; have B8 : Hid (Below w.heap.size w x8) := bstep (bstep BB6.out l1) hb8; clear hb8) | (go_at_call 18; (with_reducible refine (iC _).mono ?_); rintro e x9 ⟨rfl, hb9⟩))
          go_ret
          exact ⟨rfl, bstep B8.out hb9⟩
        · go_wp2_with (first | (go_at_call 19; (with_reducible refine (iM _).mono ?_); rintro e x8 ⟨rfl, hb8⟩; have B8 : Hid (Below w.heap.size w x8) := bstep BB6.out hb8; clear hb8) | (go_at_call 18; (with_reducible refine (iC _).mono ?_); rintro e x9 ⟨rfl, hb9⟩))
          go_ret
          exact ⟨rfl, bstep B8.out hb9⟩
      · go_wp2_with (first | (go_at_call 19; (with_reducible refine (iM _).mono ?_); rintro e x8 ⟨rfl, hb8⟩; have B8 : Hid (Below w.heap.size w x8) := bstep BB6.out hb8; clear hb8) | (go_at_call 18; (with_reducible refine (iC _).mono ?_); rintro e x9 ⟨rfl, hb9⟩))
        go_ret
        exact ⟨rfl, bstep B8.out hb9⟩
    · clear hcl
      have hb' : b < 1 ∨ 24 < b := by omega
      clear hb
      rcases hb' with hb' | hb'
      · go_upto_region 10 with (first | (go_at_call 16; (fail_if_success have := M1); refine (I0.out _ _ _ FA0.out FB0.out).mono ?_; rintro e x1 ⟨rfl, hb⟩; have M1 : Hid True := trivial; have BB1 : Hid (Below w.heap.size w x1) := bstep BB0.out hb; have FA1 : Hid (Il x1 (.slice ao n cp) n xs) := Il.below FA0.out hb; have FB1 : Hid (Il x1 (.slice bo m cq) m ys) := Il.below FB0.out hb; clear hb) | (go_at_call 16; have Z := M1; (fail_if_success have := M2); refine (I1.out _ _ _ FA1.out FB1.out).mono ?_; rintro e x2 ⟨rfl, hb⟩; have M2 : Hid True := trivial; have BB2 : Hid (Below w.heap.size w x2) := bstep BB1.out hb; have FA2 : Hid (Il x2 (.slice ao n cp) n xs) := Il.below FA1.out hb; have FB2 : Hid (Il x2 (.slice bo m cq) m ys) := Il.below FB1.out hb; clear hb) | (go_at_call 17; have Z := M2; (fail_if_success have := M3); refine (S0.out _ _ _ FA2.out FB2.out).mono ?_; rintro e x3 ⟨rfl, hb⟩; have M3 : Hid True := trivial; have BB3 : Hid (Below w.heap.size w x3) := bstep BB2.out hb; have FA3 : Hid (Il x3 (.slice ao n cp) n xs) := Il.below FA2.out hb; have FB3 : Hid (Il x3 (.slice bo m cq) m ys) := Il.below FB2.out hb; clear hb) | (go_at_call 17; have Z := M3; (fail_if_success have := M4); refine (S1.out _ _ _ FA3.out FB3.out).mono ?_; rintro e x4 ⟨rfl, hb⟩; have M4 : Hid True := trivial; have BB4 : Hid (Below w.heap.size w x4) := bstep BB3.out hb; have FA4 : Hid (Il x4 (.slice ao n cp) n xs) := Il.below FA3.out hb; have FB4 : Hid (Il x4 (.slice bo m cq) m ys) := Il.below FB3.out hb; clear hb) | (go_at_call 18; have Z := M4; (fail_if_success have := M5); (with_reducible refine (iX _).mono ?_); rintro e x5 ⟨rfl, hb⟩; have M5 : Hid True := trivial; have BB5 : Hid (Below w.heap.size w x5) := bstep BB4.out hb; have FA5 : Hid (Il x5 (.slice ao n cp) n xs) := Il.below FA4.out hb; have FB5 : Hid (Il x5 (.slice bo m cq) m ys) := Il.below FB4.out hb; clear hb) | (go_at_call 18; have Z := M5; (fail_if_success have := M6); (with_reducible refine (iY _).mono ?_); rintro e x6 ⟨rfl, hb⟩; have M6 : Hid True := trivial; have BB6 : Hid (Below w.heap.size w x6) := bstep BB5.out hb; have FA6 : Hid (Il x6 (.slice ao n cp) n xs) := Il.below FA5.out hb; have FB6 : Hid (Il x6 (.slice bo m cq) m ys) := Il.below FB5.out hb; clear hb))
        by_cases h1 : n = 1
        · by_cases h2 : m = 1
          · subst h1
            subst h2
            obtain ⟨eX, eY⟩ := H11.out ⟨rfl, rfl⟩
            have i7 := iMul_any (xs 0) (ys 0) f b c
            rw [eX] at i7
            obtain ⟨ao1, cp1, e1, _, hc1⟩ := FA4.out
            obtain ⟨bo1, cq1, e2, _, hc2⟩ := FB4.out
            injection e1 with e11 e12 e13
            injection e2 with e21 e22 e23
            subst e11 e13 e21 e23
            clear e12 e22
            obtain ⟨b1, off1, rfl, hlt1, hcell1⟩ := hc1 (by omega)
            obtain ⟨b2, off2, rfl, hlt2, hcell2⟩ := hc2 (by omega)
            have ra : ∀ Z, Below x4.heap.size x4 Z → Z.cell? ⟨b1, off1, none⟩ = some (.int .i64 (xs 0)) ∧ Z.cell? ⟨b2, off2, none⟩ = some (.int .i64 (ys 0)) := fun Z hZ => ⟨keepc hZ (hcell1 0 (by omega)), keepc hZ (hcell2 0 (by omega))⟩
            clear hcell1 hcell2 hc1 hc2
            have l0 : Below x4.heap.size x4 x4.drew := (Below.refl _ _).drew
            go_upto_region 11 with fail
            refine wp_region_any (by kernel_rfl) ?_
            change wpAny _ _ _ _ _ _ _ (World.drew _)
            refine wpI_any (I := fun Z => Below x4.heap.size x4 Z) _ _ _ _ ?_
            refine wpI_take (i := 0) (v := ?_) rfl (by kernel_rfl) (by kernel_rfl) (by kernel_rfl) (fun _ _ _ h => h) ⟨by rfl, ?_⟩ ?_
            rotate_left
            · intro X hI; go_simp; with_reducible rfl
            refine wpI_take (i := 1) (v := ?_) rfl (by kernel_rfl) (by kernel_rfl) (by kernel_rfl) (fun _ _ _ h => h) ⟨by rfl, ?_⟩ ?_
            rotate_left
            · intro X hI; go_simp; with_reducible rfl
            refine wpI_take (i := 2) (v := ?_) rfl (by kernel_rfl) (by kernel_rfl) (by kernel_rfl) (fun _ _ _ h => h) ⟨by rfl, ?_⟩ ?_
            rotate_left
            · intro X hI; obtain ⟨q1, q2⟩ := ra X hI; go_simp; with_reducible rfl
            refine wpI_take (i := 3) (v := ?_) rfl (by kernel_rfl) (by kernel_rfl) (by kernel_rfl) (fun _ _ _ h => h) ⟨by rfl, ?_⟩ ?_
            rotate_left
            · intro X hI; go_simp; with_reducible rfl
            refine wpI_take (i := 4) (v := ?_) rfl (by kernel_rfl) (by kernel_rfl) (by kernel_rfl) (fun _ _ _ h => h) ⟨by rfl, ?_⟩ ?_
            rotate_left
            · intro X hI; go_simp; with_reducible rfl
            refine wpI_take (i := 5) (v := ?_) rfl (by kernel_rfl) (by kernel_rfl) (by kernel_rfl) (fun _ _ _ h => h) ⟨by rfl, ?_⟩ ?_
            rotate_left
            · intro X hI; obtain ⟨q1, q2⟩ := ra X hI; go_simp; with_reducible rfl
            refine wpI_take (i := 6) (v := ?_) rfl (by kernel_rfl) (by kernel_rfl) (by kernel_rfl) (fun _ _ _ h => h) ⟨by rfl, ?_⟩ ?_
            rotate_left
            · intro X hI; go_simp; with_reducible rfl
            refine wpI_take (i := 7) (v := ?_) rfl (by kernel_rfl) (by kernel_rfl) (by kernel_rfl) (fun _ _ _ h => h) ⟨by rfl, ?_⟩ ?_
            rotate_left
            · intro X hI; go_simp; with_reducible rfl
            refine wpI_take (i := 8) (v := ?_) rfl (by kernel_rfl) (by kernel_rfl) (by kernel_rfl) (fun _ _ _ h => h) ⟨by rfl, ?_⟩ ?_
            rotate_left
            · intro X hI; go_simp; with_reducible rfl
            refine wpI_only (i := 9) rfl (by kernel_rfl) l0 (by rfl) ?_
            intro K hK
            go_simp
            go_wp2_with (go_at_call 19; (with_reducible refine (i7 _).mono ?_); rintro e x7 ⟨rfl, hb7⟩; have l1 := bstep l0 hb7)
            refine wpI_only (i := 10) rfl (by kernel_rfl) l1 (by rfl) ?_
            intro K hK
            go_simp
            refine hK _ _ ?_
            refine wpI_done l1 (by kernel_rfl) ?_ _
            subst eY
            go_wp2_with (first | (go_at_call 19; (with_reducible refine (iM _).mono ?_); rintro e x8 ⟨rfl, hb8⟩; have B8 : Hid (Below w.heap.size w x8) := bstep (bstep BB4.out l1) hb8; clear hb8) | (go_at_call 18; (with_reducible refine (iC _).mono ?_); rintro e x9 ⟨rfl, hb9⟩))
            go_ret
            exact ⟨rfl, bstep B8.out hb9⟩
          · go_wp2_with (first | (go_at_call 19; (with_reducible refine (iM _).mono ?_); rintro e x8 ⟨rfl, hb8⟩; have B8 : Hid (Below w.heap.size w x8) := bstep BB4.out hb8; clear hb8) | (go_at_call 18; (with_reducible refine (iC _).mono ?_); rintro e x9 ⟨rfl, hb9⟩))
            go_ret
            exact ⟨rfl, bstep B8.out hb9⟩
        · go_wp2_with (first | (go_at_call 19; (with_reducible refine (iM _).mono ?_); rintro e x8 ⟨rfl, hb8⟩; have B8 : Hid (Below w.heap.size w x8) := bstep BB4.out hb8; clear hb8) | (go_at_call 18; (with_reducible refine (iC _).mono ?_); rintro e x9 ⟨rfl, hb9⟩))
          go_ret
          exact ⟨rfl, bstep B8.out hb9⟩
      · go_upto_region 10 with (first | (go_at_call 16; (fail_if_success have := M1); refine (I0.out _ _ _ FA0.out FB0.out).mono ?_; rintro e x1 ⟨rfl, hb⟩; have M1 : Hid True := trivial; have BB1 : Hid (Below w.heap.size w x1) := bstep BB0.out hb; have FA1 : Hid (Il x1 (.slice ao n cp) n xs) := Il.below FA0.out hb; have FB1 : Hid (Il x1 (.slice bo m cq) m ys) := Il.below FB0.out hb; clear hb) | (go_at_call 16; have Z := M1; (fail_if_success have := M2); refine (I1.out _ _ _ FA1.out FB1.out).mono ?_; rintro e x2 ⟨rfl, hb⟩; have M2 : Hid True := trivial; have BB2 : Hid (Below w.heap.size w x2) := bstep BB1.out hb; have FA2 : Hid (Il x2 (.slice ao n cp) n xs) := Il.below FA1.out hb; have FB2 : Hid (Il x2 (.slice bo m cq) m ys) := Il.below FB1.out hb; clear hb) | (go_at_call 17; have Z := M2; (fail_if_success have := M3); refine (S0.out _ _ _ FA2.out FB2.out).mono ?_; rintro e x3 ⟨rfl, hb⟩; have M3 : Hid True := trivial; have BB3 : Hid (Below w.heap.size w x3) := bstep BB2.out hb; have FA3 : Hid (Il x3 (.slice ao n cp) n xs) := Il.below FA2.out hb; have FB3 : Hid (Il x3 (.slice bo m cq) m ys) := Il.below FB2.out hb; clear hb) | (go_at_call 17; have Z := M3; (fail_if_success have := M4); refine (S1.out _ _ _ FA3.out FB3.out).mono ?_; rintro e x4 ⟨rfl, hb⟩; have M4 : Hid True := trivial; have BB4 : Hid (Below w.heap.size w x4) := bstep BB3.out hb; have FA4 : Hid (Il x4 (.slice ao n cp) n xs) := Il.below FA3.out hb; have FB4 : Hid (Il x4 (.slice bo m cq) m ys) := Il.below FB3.out hb; clear hb) | (go_at_call 18; have Z := M4; (fail_if_success have := M5); (with_reducible refine (iX _).mono ?_); rintro e x5 ⟨rfl, hb⟩; have M5 : Hid True := trivial; have BB5 : Hid (Below w.heap.size w x5) := bstep BB4.out hb; have FA5 : Hid (Il x5 (.slice ao n cp) n xs) := Il.below FA4.out hb; have FB5 : Hid (Il x5 (.slice bo m cq) m ys) := Il.below FB4.out hb; clear hb) | (go_at_call 18; have Z := M5; (fail_if_success have := M6); (with_reducible refine (iY _).mono ?_); rintro e x6 ⟨rfl, hb⟩; have M6 : Hid True := trivial; have BB6 : Hid (Below w.heap.size w x6) := bstep BB5.out hb; have FA6 : Hid (Il x6 (.slice ao n cp) n xs) := Il.below FA5.out hb; have FB6 : Hid (Il x6 (.slice bo m cq) m ys) := Il.below FB5.out hb; clear hb))
        by_cases h1 : n = 1
        · by_cases h2 : m = 1
          · subst h1
            subst h2
            obtain ⟨eX, eY⟩ := H11.out ⟨rfl, rfl⟩
            have i7 := iMul_any (xs 0) (ys 0) f b c
            rw [eX] at i7
            obtain ⟨ao1, cp1, e1, _, hc1⟩ := FA4.out
            obtain ⟨bo1, cq1, e2, _, hc2⟩ := FB4.out
            injection e1 with e11 e12 e13
            injection e2 with e21 e22 e23
            subst e11 e13 e21 e23
            clear e12 e22
            obtain ⟨b1, off1, rfl, hlt1, hcell1⟩ := hc1 (by omega)
            obtain ⟨b2, off2, rfl, hlt2, hcell2⟩ := hc2 (by omega)
            have ra : ∀ Z, Below x4.heap.size x4 Z → Z.cell? ⟨b1, off1, none⟩ = some (.int .i64 (xs 0)) ∧ Z.cell? ⟨b2, off2, none⟩ = some (.int .i64 (ys 0)) := fun Z hZ => ⟨keepc hZ (hcell1 0 (by omega)), keepc hZ (hcell2 0 (by omega))⟩
            clear hcell1 hcell2 hc1 hc2
            have l0 : Below x4.heap.size x4 x4.drew := (Below.refl _ _).drew
            go_upto_region 11 with fail
            refine wp_region_any (by kernel_rfl) ?_
            change wpAny _ _ _ _ _ _ _ (World.drew _)
            refine wpI_any (I := fun Z => Below x4.heap.size x4 Z) _ _ _ _ ?_
            refine wpI_take (i := 0) (v := ?_) rfl (by kernel_rfl) (by kernel_rfl) (by kernel_rfl) (fun _ _ _ h => h) ⟨by rfl, ?_⟩ ?_
            rotate_left
            · intro X hI; go_simp; with_reducible rfl
            refine wpI_take (i := 1) (v := ?_) rfl (by kernel_rfl) (by kernel_rfl) (by kernel_rfl) (fun _ _ _ h => h) ⟨by rfl, ?_⟩ ?_
            rotate_left
            · intro X hI; go_simp; with_reducible rfl
            refine wpI_take (i := 2) (v := ?_) rfl (by kernel_rfl) (by kernel_rfl) (by kernel_rfl) (fun _ _ _ h => h) ⟨by rfl, ?_⟩ ?_
            rotate_left
            · intro X hI; obtain ⟨q1, q2⟩ := ra X hI; go_simp; with_reducible rfl
            refine wpI_take (i := 3) (v := ?_) rfl (by kernel_rfl) (by kernel_rfl) (by kernel_rfl) (fun _ _ _ h => h) ⟨by rfl, ?_⟩ ?_
            rotate_left
            · intro X hI; go_simp; with_reducible rfl
            refine wpI_take (i := 4) (v := ?_) rfl (by kernel_rfl) (by kernel_rfl) (by kernel_rfl) (fun _ _ _ h => h) ⟨by rfl, ?_⟩ ?_
            rotate_left
            · intro X hI; go_simp; with_reducible rfl
            refine wpI_take (i := 5) (v := ?_) rfl (by kernel_rfl) (by kernel_rfl) (by kernel_rfl) (fun _ _ _ h => h) ⟨by rfl, ?_⟩ ?_
            rotate_left
            · intro X hI; obtain ⟨q1, q2⟩ := ra X hI; go_simp; with_reducible rfl
            refine wpI_take (i := 6) (v := ?_) rfl (by kernel_rfl) (by kernel_rfl) (by kernel_rfl) (fun _ _ _ h => h) ⟨by rfl, ?_⟩ ?_
            rotate_left
            · intro X hI; go_simp; with_reducible rfl
            refine wpI_take (i := 7) (v := ?_) rfl (by kernel_rfl) (by kernel_rfl) (by kernel_rfl) (fun _ _ _ h => h) ⟨by rfl, ?_⟩ ?_
            rotate_left
            · intro X hI; go_simp; with_reducible rfl
            refine wpI_take (i := 8) (v := ?_) rfl (by kernel_rfl) (by kernel_rfl) (by kernel_rfl) (fun _ _ _ h => h) ⟨by rfl, ?_⟩ ?_
            rotate_left
            · intro X hI; go_simp; with_reducible rfl
            refine wpI_only (i := 9) rfl (by kernel_rfl) l0 (by rfl) ?_
            intro K hK
            go_simp
            go_wp2_with (go_at_call 19; (with_reducible refine (i7 _).mono ?_); rintro e x7 ⟨rfl, hb7⟩; have l1 := bstep l0 hb7)
            refine wpI_only (i := 10) rfl (by kernel_rfl) l1 (by rfl) ?_
            intro K hK
            go_simp
            refine hK _ _ ?_
            refine wpI_done l1 (by kernel_rfl) ?_ _
            subst eY
            go_wp2_with (first | (go_at_call 19; (with_reducible refine (iM _).mono ?_); rintro e x8 ⟨rfl, hb8⟩; have B8 : Hid (Below w.heap.size w x8) := bstep (bstep BB4.out l1) hb8; clear hb8) | (go_at_call 18; (with_reducible refine (iC _).mono ?_); rintro e x9 ⟨rfl, hb9⟩))
            go_ret
            exact ⟨rfl, bstep B8.out hb9⟩
          · go_wp2_with (first | (go_at_call 19; (with_reducible refine (iM _).mono ?_); rintro e x8 ⟨rfl, hb8⟩; have B8 : Hid (Below w.heap.size w x8) := bstep BB4.out hb8; clear hb8) | (go_at_call 18; (with_reducible refine (iC _).mono ?_); rintro e x9 ⟨rfl, hb9⟩))
            go_ret
            exact ⟨rfl, bstep B8.out hb9⟩
        · go_wp2_with (first | (go_at_call 19; (with_reducible refine (iM _).mono ?_); rintro e x8 ⟨rfl, hb8⟩; have B8 : Hid (Below w.heap.size w x8) := bstep BB4.out hb8; clear hb8) | (go_at_call 18; (with_reducible refine (iC _).mono ?_); rintro e x9 ⟨rfl, hb9⟩))
          go_ret
          exact ⟨rfl, bstep B8.out hb9⟩
  · rw [decide_eq_true (show (1048576 : Int) < (N0 : Int) by omega)] at hz
    go_enter Try.func5, Try.ntmps5
    go_wp2_with (go_at_call 8; (with_reducible refine (hz _).mono ?_); rintro e w' ⟨rfl, hw⟩; obtain rfl := hw.symm)
    go_ret
    exact ⟨rfl, Below.refl _ _⟩
end Go.Proofs.Ytnabpijackgmnaa
