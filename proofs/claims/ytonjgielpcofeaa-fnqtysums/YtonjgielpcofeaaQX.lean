/- Quantities: the law. -/
import Derived.Test.YtonjgielpcofeaaQV
import Derived.Test.YtonjgielpcofeaaQW
import Derived.Test.YtonjgielpcofeaaI1
namespace Go.Proofs.Ytonjgielpcofeaa
open Go.RowKit

set_option maxHeartbeats 2000000 in
theorem walk_add (a1 a2 a3 a4 b1 b2 b3 b4 : Int) (w : World) : Calls Try.prog 5 #[.agg #[.int .i64 a1, .int .i64 a2, .int .i64 a3, .int .i64 a4], .agg #[.int .i64 b1, .int .i64 b2, .int .i64 b3, .int .i64 b4]] w fun e w' => e = .returned (.bool true) ∧ Below w.heap.size w w' := by
  obtain ⟨R, hR⟩ : ∃ R, (aR a1 a2 a3 a4 b1 b2 b3 b4) = R := ⟨_, rfl⟩
  have hdd : (R.2.2.2.2 != R.2.2.2.2) = false := by simp
  have B0 : Hid (Below w.heap.size w (((w).alloc (.cells #[.int .i64 a1, .int .i64 a2, .int .i64 a3, .int .i64 a4] 30)).alloc (.cells #[.int .i64 b1, .int .i64 b2, .int .i64 b3, .int .i64 b4] 30))) := bstep (below_one w _) (below_one _ _)
  have RA : Hid (R4 (((w).alloc (.cells #[.int .i64 a1, .int .i64 a2, .int .i64 a3, .int .i64 a4] 30)).alloc (.cells #[.int .i64 b1, .int .i64 b2, .int .i64 b3, .int .i64 b4] 30)) w.heap.size a1 a2 a3 a4) := (R4.new w 30 a1 a2 a3 a4).call (below_one _ _)
  have RB : Hid (R4 (((w).alloc (.cells #[.int .i64 a1, .int .i64 a2, .int .i64 a3, .int .i64 a4] 30)).alloc (.cells #[.int .i64 b1, .int .i64 b2, .int .i64 b3, .int .i64 b4] 30)) (w.heap.size + 1) b1 b2 b3 b4) := by have h := R4.new (w.alloc (.cells #[.int .i64 a1, .int .i64 a2, .int .i64 a3, .int .i64 a4] 30)) 30 b1 b2 b3 b4; simp only [World.heap_size_alloc] at h; exact h
  go_enter Try.func5, Try.ntmps5
  go_wp2
  rename_i Q0 K0 hK0
  have rest1 : ∀ (X : World) (G0 : Nat), Hid (Below w.heap.size w X) → Hid (R4 X w.heap.size a1 a2 a3 a4) → Hid (R4 X (w.heap.size + 1) b1 b2 b3 b4) → Hid (R4 X G0 R.1 R.2.1 R.2.2.1 R.2.2.2.1) → K0 { tmps := #[.agg #[.int .i64 a1, .int .i64 a2, .int .i64 a3, .int .i64 a4], .agg #[.int .i64 b1, .int .i64 b2, .int .i64 b3, .int .i64 b4], .pointer (some ⟨w.heap.size, 0, none⟩), .pointer (some ⟨w.heap.size + 1, 0, none⟩), .bool false, .pointer (some ⟨G0, 0, none⟩), .bool R.2.2.2.2, undef, undef, .tuple #[.agg #[.int .i64 R.1, .int .i64 R.2.1, .int .i64 R.2.2.1, .int .i64 R.2.2.2.1], .bool R.2.2.2.2], .agg #[.int .i64 a1, .int .i64 a2, .int .i64 a3, .int .i64 a4], .agg #[.int .i64 a1, .int .i64 a2, .int .i64 a3, .int .i64 a4], .agg #[.int .i64 b1, .int .i64 b2, .int .i64 b3, .int .i64 b4], .agg #[.int .i64 b1, .int .i64 b2, .int .i64 b3, .int .i64 b4], .tuple #[.agg #[.int .i64 R.1, .int .i64 R.2.1, .int .i64 R.2.2.1, .int .i64 R.2.2.2.1], .bool R.2.2.2.2], .agg #[.int .i64 R.1, .int .i64 R.2.1, .int .i64 R.2.2.1, .int .i64 R.2.2.2.1], .bool R.2.2.2.2, undef, undef, undef, undef, undef, undef, undef, undef, undef, undef, undef, undef, undef, undef, undef, undef, undef], defers := [] } X := by
    intro X G0 B0 RA RB RG0
    refine hK0 _ _ ?_
    go_wp2
    refine wp_region_any (by kernel_rfl) ?_
    change wpAny _ _ _ _ _ _ _ (World.drew _)
    have B0 : Hid (Below w.heap.size w X.drew) := B0.out.drew
    have RA : Hid (R4 X.drew w.heap.size a1 a2 a3 a4) := RA.out.drew
    have RB : Hid (R4 X.drew (w.heap.size + 1) b1 b2 b3 b4) := RB.out.drew
    have RG0 : Hid (R4 X.drew G0 R.1 R.2.1 R.2.2.1 R.2.2.2.1) := RG0.out.drew
    generalize X.drew = W1 at B0 RA RB RG0 ⊢
    refine wpI_any (I := fun X => R4 X w.heap.size a1 a2 a3 a4 ∧ R4 X (w.heap.size + 1) b1 b2 b3 b4) _ _ _ _ ?_
    refine wpI_take (i := 0) (v := ?_) rfl (by kernel_rfl) (by kernel_rfl) (by kernel_rfl) (fun _ _ _ h => h) ⟨by rfl, ?_⟩ ?_
    rotate_left
    · intro X hI; obtain ⟨c0, c1, c2, c3, _⟩ := hI.1; go_simp; with_reducible rfl
    refine wpI_take (i := 2) (v := ?_) rfl (by kernel_rfl) (by kernel_rfl) (by kernel_rfl) (fun _ _ _ h => h) ⟨by rfl, ?_⟩ ?_
    rotate_left
    · intro X hI; obtain ⟨c0, c1, c2, c3, _⟩ := hI.2; go_simp; with_reducible rfl
    refine wpI_two (i := 1) (j := 8) rfl rfl (by kernel_rfl) ⟨RA.out, RB.out⟩ (by rfl) (by rfl) ?_ ?_
    · intro K hK
      go_simp
      go_wp2_with (go_at_call 15; (with_reducible refine (toQ_any a1 a2 a3 a4 _).mono ?_); rintro e w2 ⟨rfl, hb⟩; have RA : Hid (R4 w2 w.heap.size a1 a2 a3 a4) := RA.out.call hb; have RB : Hid (R4 w2 (w.heap.size + 1) b1 b2 b3 b4) := RB.out.call hb; have RG0 : Hid (R4 w2 G0 R.1 R.2.1 R.2.2.1 R.2.2.2.1) := RG0.out.call hb; have B0 : Hid (Below w.heap.size w w2) := bstep B0.out hb; clear hb)
      refine wpI_two (i := 3) (j := 8) rfl rfl (by kernel_rfl) ⟨RA.out, RB.out⟩ (by rfl) (by rfl) ?_ ?_
      · intro K hK
        go_simp
        go_wp2_with (go_at_call 15; (with_reducible refine (toQ_any b1 b2 b3 b4 _).mono ?_); rintro e w2 ⟨rfl, hb⟩; have RA : Hid (R4 w2 w.heap.size a1 a2 a3 a4) := RA.out.call hb; have RB : Hid (R4 w2 (w.heap.size + 1) b1 b2 b3 b4) := RB.out.call hb; have RG0 : Hid (R4 w2 G0 R.1 R.2.1 R.2.2.1 R.2.2.2.1) := RG0.out.call hb; have B0 : Hid (Below w.heap.size w w2) := bstep B0.out hb; clear hb)
        refine wpI_two (i := 4) (j := 8) rfl rfl (by kernel_rfl) ⟨RA.out, RB.out⟩ (by rfl) (by rfl) ?_ ?_
        · intro K hK
          go_simp
          go_wp2_with (go_at_call 10; (with_reducible refine (iAdd_any a1 a2 a3 a4 b1 b2 b3 b4 _).mono ?_); rintro e w2 ⟨rfl, hb⟩; have RA : Hid (R4 w2 w.heap.size a1 a2 a3 a4) := RA.out.call hb; have RB : Hid (R4 w2 (w.heap.size + 1) b1 b2 b3 b4) := RB.out.call hb; have RG0 : Hid (R4 w2 G0 R.1 R.2.1 R.2.2.1 R.2.2.2.1) := RG0.out.call hb; have B0 : Hid (Below w.heap.size w w2) := bstep B0.out hb; clear hb; rw [hR])
          refine wpI_take (i := 5) (v := ?_) rfl (by kernel_rfl) (by kernel_rfl) (by kernel_rfl) (fun _ _ _ h => h) ⟨by rfl, ?_⟩ ?_
          rotate_left
          · intro X _; go_simp; with_reducible rfl
          refine wpI_take (i := 6) (v := ?_) rfl (by kernel_rfl) (by kernel_rfl) (by kernel_rfl) (fun _ _ _ h => h) ⟨by rfl, ?_⟩ ?_
          rotate_left
          · intro X _; go_simp; with_reducible rfl
          refine wpI_take (i := 7) (v := ?_) rfl (by kernel_rfl) (by kernel_rfl) (by kernel_rfl) (fun _ _ _ h => h) ⟨by rfl, ?_⟩ ?_
          rotate_left
          · intro X _; go_simp; with_reducible rfl
          refine wpI_only (i := 8) rfl (by kernel_rfl) ⟨RA.out, RB.out⟩ (by rfl) ?_
          intro K hK
          go_simp
          refine hK _ _ ?_
          have lG1_RA : Hid (w.heap.size < w2.heap.size) := World.block_lt_of_cell? _ _ RA.out.c0
          have lG1_RB : Hid ((w.heap.size + 1) < w2.heap.size) := World.block_lt_of_cell? _ _ RB.out.c0
          have lG1_RG0 : Hid (G0 < w2.heap.size) := World.block_lt_of_cell? _ _ RG0.out.c0
          have RG1 : Hid (R4 (w2.alloc (.cells #[.int .i64 0, .int .i64 0, .int .i64 0, .int .i64 0] 25)) w2.heap.size 0 0 0 0) := R4.new _ _ _ _ _ _
          generalize hGG : w2.heap.size = G1 at RG1 lG1_RA lG1_RB lG1_RG0 ⊢
          have lw_G1 : Hid (w.heap.size ≤ G1) := by rw [← hGG]; exact B0.out.size
          clear hGG
          have B0 : Hid (Below w.heap.size w (w2.alloc (.cells #[.int .i64 0, .int .i64 0, .int .i64 0, .int .i64 0] 25))) := bstep B0.out (below_one _ _)
          have RA : Hid (R4 (w2.alloc (.cells #[.int .i64 0, .int .i64 0, .int .i64 0, .int .i64 0] 25)) w.heap.size a1 a2 a3 a4) := RA.out.call (below_one _ _)
          have RB : Hid (R4 (w2.alloc (.cells #[.int .i64 0, .int .i64 0, .int .i64 0, .int .i64 0] 25)) (w.heap.size + 1) b1 b2 b3 b4) := RB.out.call (below_one _ _)
          have RG0 : Hid (R4 (w2.alloc (.cells #[.int .i64 0, .int .i64 0, .int .i64 0, .int .i64 0] 25)) G0 R.1 R.2.1 R.2.2.1 R.2.2.2.1) := RG0.out.call (below_one _ _)
          generalize w2.alloc (.cells #[.int .i64 0, .int .i64 0, .int .i64 0, .int .i64 0] 25) = w2 at B0 RG1 RA RB RG0 ⊢
          refine wpI_only (i := 9) rfl (by kernel_rfl) ⟨RA.out, RB.out⟩ (by rfl) ?_
          intro K hK
          obtain ⟨z0, z1, z2, z3, zf⟩ := RG1.out
          have f0 := zf 0
          have f1 := zf 1
          have f2 := zf 2
          have f3 := zf 3
          go_simp
          refine hK _ _ ?_
          clear f0 f1 f2 f3 z0 z1 z2 z3 zf
          have RG1 : Hid (R4 ((((w2.setCell ⟨G1, 0, none⟩ (.int .i64 R.1)).setCell ⟨G1, 1, none⟩ (.int .i64 R.2.1)).setCell ⟨G1, 2, none⟩ (.int .i64 R.2.2.1)).setCell ⟨G1, 3, none⟩ (.int .i64 R.2.2.2.1)) G1 R.1 R.2.1 R.2.2.1 R.2.2.2.1) := (((RG1.out.put0 _).put1 _).put2 _).put3 _
          have RA : Hid (R4 ((((w2.setCell ⟨G1, 0, none⟩ (.int .i64 R.1)).setCell ⟨G1, 1, none⟩ (.int .i64 R.2.1)).setCell ⟨G1, 2, none⟩ (.int .i64 R.2.2.1)).setCell ⟨G1, 3, none⟩ (.int .i64 R.2.2.2.1)) w.heap.size a1 a2 a3 a4) := (((RA.out.off (Nat.ne_of_lt lG1_RA.out) _ _).off (Nat.ne_of_lt lG1_RA.out) _ _).off (Nat.ne_of_lt lG1_RA.out) _ _).off (Nat.ne_of_lt lG1_RA.out) _ _
          have RB : Hid (R4 ((((w2.setCell ⟨G1, 0, none⟩ (.int .i64 R.1)).setCell ⟨G1, 1, none⟩ (.int .i64 R.2.1)).setCell ⟨G1, 2, none⟩ (.int .i64 R.2.2.1)).setCell ⟨G1, 3, none⟩ (.int .i64 R.2.2.2.1)) (w.heap.size + 1) b1 b2 b3 b4) := (((RB.out.off (Nat.ne_of_lt lG1_RB.out) _ _).off (Nat.ne_of_lt lG1_RB.out) _ _).off (Nat.ne_of_lt lG1_RB.out) _ _).off (Nat.ne_of_lt lG1_RB.out) _ _
          have RG0 : Hid (R4 ((((w2.setCell ⟨G1, 0, none⟩ (.int .i64 R.1)).setCell ⟨G1, 1, none⟩ (.int .i64 R.2.1)).setCell ⟨G1, 2, none⟩ (.int .i64 R.2.2.1)).setCell ⟨G1, 3, none⟩ (.int .i64 R.2.2.2.1)) G0 R.1 R.2.1 R.2.2.1 R.2.2.2.1) := (((RG0.out.off (Nat.ne_of_lt lG1_RG0.out) _ _).off (Nat.ne_of_lt lG1_RG0.out) _ _).off (Nat.ne_of_lt lG1_RG0.out) _ _).off (Nat.ne_of_lt lG1_RG0.out) _ _
          have B0 : Hid (Below w.heap.size w ((((w2.setCell ⟨G1, 0, none⟩ (.int .i64 R.1)).setCell ⟨G1, 1, none⟩ (.int .i64 R.2.1)).setCell ⟨G1, 2, none⟩ (.int .i64 R.2.2.1)).setCell ⟨G1, 3, none⟩ (.int .i64 R.2.2.2.1))) := (((B0.out.setCell lw_G1.out _).setCell lw_G1.out _).setCell lw_G1.out _).setCell lw_G1.out _
          generalize (((w2.setCell ⟨G1, 0, none⟩ (.int .i64 R.1)).setCell ⟨G1, 1, none⟩ (.int .i64 R.2.1)).setCell ⟨G1, 2, none⟩ (.int .i64 R.2.2.1)).setCell ⟨G1, 3, none⟩ (.int .i64 R.2.2.2.1) = w2 at B0 RG1 RA RB RG0 ⊢
          refine wpI_take (i := 10) (v := ?_) rfl (by kernel_rfl) (by kernel_rfl) (by kernel_rfl) (fun _ _ _ h => h) ⟨by rfl, ?_⟩ ?_
          rotate_left
          · intro X _; go_simp; with_reducible rfl
          refine wpI_done ⟨RA.out, RB.out⟩ (by kernel_rfl) ?_ _
          obtain ⟨u0, u1, u2, u3, _⟩ := RG0.out
          obtain ⟨v0, v1, v2, v3, _⟩ := RG1.out
          go_wp2_with (go_at_call 17; (with_reducible refine (eqQ_any _ _ _ _ _ _ _ _ _ ⟨rfl, rfl, rfl, rfl⟩).mono ?_); rintro e w3 ⟨rfl, hb⟩; have B0 : Hid (Below w.heap.size w w3) := bstep B0.out hb; clear hb)
          go_ret
          exact ⟨rfl, B0.out⟩
        · intro K hK
          go_simp
          refine hK _ _ ?_
          have lG1_RA : Hid (w.heap.size < w2.heap.size) := World.block_lt_of_cell? _ _ RA.out.c0
          have lG1_RB : Hid ((w.heap.size + 1) < w2.heap.size) := World.block_lt_of_cell? _ _ RB.out.c0
          have lG1_RG0 : Hid (G0 < w2.heap.size) := World.block_lt_of_cell? _ _ RG0.out.c0
          have RG1 : Hid (R4 (w2.alloc (.cells #[.int .i64 0, .int .i64 0, .int .i64 0, .int .i64 0] 25)) w2.heap.size 0 0 0 0) := R4.new _ _ _ _ _ _
          generalize hGG : w2.heap.size = G1 at RG1 lG1_RA lG1_RB lG1_RG0 ⊢
          have lw_G1 : Hid (w.heap.size ≤ G1) := by rw [← hGG]; exact B0.out.size
          clear hGG
          have B0 : Hid (Below w.heap.size w (w2.alloc (.cells #[.int .i64 0, .int .i64 0, .int .i64 0, .int .i64 0] 25))) := bstep B0.out (below_one _ _)
          have RA : Hid (R4 (w2.alloc (.cells #[.int .i64 0, .int .i64 0, .int .i64 0, .int .i64 0] 25)) w.heap.size a1 a2 a3 a4) := RA.out.call (below_one _ _)
          have RB : Hid (R4 (w2.alloc (.cells #[.int .i64 0, .int .i64 0, .int .i64 0, .int .i64 0] 25)) (w.heap.size + 1) b1 b2 b3 b4) := RB.out.call (below_one _ _)
          have RG0 : Hid (R4 (w2.alloc (.cells #[.int .i64 0, .int .i64 0, .int .i64 0, .int .i64 0] 25)) G0 R.1 R.2.1 R.2.2.1 R.2.2.2.1) := RG0.out.call (below_one _ _)
          generalize w2.alloc (.cells #[.int .i64 0, .int .i64 0, .int .i64 0, .int .i64 0] 25) = w2 at B0 RG1 RA RB RG0 ⊢
          refine wpI_only (i := 4) rfl (by kernel_rfl) ⟨RA.out, RB.out⟩ (by rfl) ?_
          intro K hK
          go_simp
          go_wp2_with (go_at_call 10; (with_reducible refine (iAdd_any a1 a2 a3 a4 b1 b2 b3 b4 _).mono ?_); rintro e w2 ⟨rfl, hb⟩; have RA : Hid (R4 w2 w.heap.size a1 a2 a3 a4) := RA.out.call hb; have RB : Hid (R4 w2 (w.heap.size + 1) b1 b2 b3 b4) := RB.out.call hb; have RG0 : Hid (R4 w2 G0 R.1 R.2.1 R.2.2.1 R.2.2.2.1) := RG0.out.call hb; have RG1 : Hid (R4 w2 G1 0 0 0 0) := RG1.out.call hb; have B0 : Hid (Below w.heap.size w w2) := bstep B0.out hb; clear hb; rw [hR])
          refine wpI_take (i := 5) (v := ?_) rfl (by kernel_rfl) (by kernel_rfl) (by kernel_rfl) (fun _ _ _ h => h) ⟨by rfl, ?_⟩ ?_
          rotate_left
          · intro X _; go_simp; with_reducible rfl
          refine wpI_take (i := 6) (v := ?_) rfl (by kernel_rfl) (by kernel_rfl) (by kernel_rfl) (fun _ _ _ h => h) ⟨by rfl, ?_⟩ ?_
          rotate_left
          · intro X _; go_simp; with_reducible rfl
          refine wpI_take (i := 7) (v := ?_) rfl (by kernel_rfl) (by kernel_rfl) (by kernel_rfl) (fun _ _ _ h => h) ⟨by rfl, ?_⟩ ?_
          rotate_left
          · intro X _; go_simp; with_reducible rfl
          refine wpI_only (i := 9) rfl (by kernel_rfl) ⟨RA.out, RB.out⟩ (by rfl) ?_
          intro K hK
          obtain ⟨z0, z1, z2, z3, zf⟩ := RG1.out
          have f0 := zf 0
          have f1 := zf 1
          have f2 := zf 2
          have f3 := zf 3
          go_simp
          refine hK _ _ ?_
          clear f0 f1 f2 f3 z0 z1 z2 z3 zf
          have RG1 : Hid (R4 ((((w2.setCell ⟨G1, 0, none⟩ (.int .i64 R.1)).setCell ⟨G1, 1, none⟩ (.int .i64 R.2.1)).setCell ⟨G1, 2, none⟩ (.int .i64 R.2.2.1)).setCell ⟨G1, 3, none⟩ (.int .i64 R.2.2.2.1)) G1 R.1 R.2.1 R.2.2.1 R.2.2.2.1) := (((RG1.out.put0 _).put1 _).put2 _).put3 _
          have RA : Hid (R4 ((((w2.setCell ⟨G1, 0, none⟩ (.int .i64 R.1)).setCell ⟨G1, 1, none⟩ (.int .i64 R.2.1)).setCell ⟨G1, 2, none⟩ (.int .i64 R.2.2.1)).setCell ⟨G1, 3, none⟩ (.int .i64 R.2.2.2.1)) w.heap.size a1 a2 a3 a4) := (((RA.out.off (Nat.ne_of_lt lG1_RA.out) _ _).off (Nat.ne_of_lt lG1_RA.out) _ _).off (Nat.ne_of_lt lG1_RA.out) _ _).off (Nat.ne_of_lt lG1_RA.out) _ _
          have RB : Hid (R4 ((((w2.setCell ⟨G1, 0, none⟩ (.int .i64 R.1)).setCell ⟨G1, 1, none⟩ (.int .i64 R.2.1)).setCell ⟨G1, 2, none⟩ (.int .i64 R.2.2.1)).setCell ⟨G1, 3, none⟩ (.int .i64 R.2.2.2.1)) (w.heap.size + 1) b1 b2 b3 b4) := (((RB.out.off (Nat.ne_of_lt lG1_RB.out) _ _).off (Nat.ne_of_lt lG1_RB.out) _ _).off (Nat.ne_of_lt lG1_RB.out) _ _).off (Nat.ne_of_lt lG1_RB.out) _ _
          have RG0 : Hid (R4 ((((w2.setCell ⟨G1, 0, none⟩ (.int .i64 R.1)).setCell ⟨G1, 1, none⟩ (.int .i64 R.2.1)).setCell ⟨G1, 2, none⟩ (.int .i64 R.2.2.1)).setCell ⟨G1, 3, none⟩ (.int .i64 R.2.2.2.1)) G0 R.1 R.2.1 R.2.2.1 R.2.2.2.1) := (((RG0.out.off (Nat.ne_of_lt lG1_RG0.out) _ _).off (Nat.ne_of_lt lG1_RG0.out) _ _).off (Nat.ne_of_lt lG1_RG0.out) _ _).off (Nat.ne_of_lt lG1_RG0.out) _ _
          have B0 : Hid (Below w.heap.size w ((((w2.setCell ⟨G1, 0, none⟩ (.int .i64 R.1)).setCell ⟨G1, 1, none⟩ (.int .i64 R.2.1)).setCell ⟨G1, 2, none⟩ (.int .i64 R.2.2.1)).setCell ⟨G1, 3, none⟩ (.int .i64 R.2.2.2.1))) := (((B0.out.setCell lw_G1.out _).setCell lw_G1.out _).setCell lw_G1.out _).setCell lw_G1.out _
          generalize (((w2.setCell ⟨G1, 0, none⟩ (.int .i64 R.1)).setCell ⟨G1, 1, none⟩ (.int .i64 R.2.1)).setCell ⟨G1, 2, none⟩ (.int .i64 R.2.2.1)).setCell ⟨G1, 3, none⟩ (.int .i64 R.2.2.2.1) = w2 at B0 RG1 RA RB RG0 ⊢
          refine wpI_take (i := 10) (v := ?_) rfl (by kernel_rfl) (by kernel_rfl) (by kernel_rfl) (fun _ _ _ h => h) ⟨by rfl, ?_⟩ ?_
          rotate_left
          · intro X _; go_simp; with_reducible rfl
          refine wpI_done ⟨RA.out, RB.out⟩ (by kernel_rfl) ?_ _
          obtain ⟨u0, u1, u2, u3, _⟩ := RG0.out
          obtain ⟨v0, v1, v2, v3, _⟩ := RG1.out
          go_wp2_with (go_at_call 17; (with_reducible refine (eqQ_any _ _ _ _ _ _ _ _ _ ⟨rfl, rfl, rfl, rfl⟩).mono ?_); rintro e w3 ⟨rfl, hb⟩; have B0 : Hid (Below w.heap.size w w3) := bstep B0.out hb; clear hb)
          go_ret
          exact ⟨rfl, B0.out⟩
      · intro K hK
        go_simp
        refine hK _ _ ?_
        have lG1_RA : Hid (w.heap.size < w2.heap.size) := World.block_lt_of_cell? _ _ RA.out.c0
        have lG1_RB : Hid ((w.heap.size + 1) < w2.heap.size) := World.block_lt_of_cell? _ _ RB.out.c0
        have lG1_RG0 : Hid (G0 < w2.heap.size) := World.block_lt_of_cell? _ _ RG0.out.c0
        have RG1 : Hid (R4 (w2.alloc (.cells #[.int .i64 0, .int .i64 0, .int .i64 0, .int .i64 0] 25)) w2.heap.size 0 0 0 0) := R4.new _ _ _ _ _ _
        generalize hGG : w2.heap.size = G1 at RG1 lG1_RA lG1_RB lG1_RG0 ⊢
        have lw_G1 : Hid (w.heap.size ≤ G1) := by rw [← hGG]; exact B0.out.size
        clear hGG
        have B0 : Hid (Below w.heap.size w (w2.alloc (.cells #[.int .i64 0, .int .i64 0, .int .i64 0, .int .i64 0] 25))) := bstep B0.out (below_one _ _)
        have RA : Hid (R4 (w2.alloc (.cells #[.int .i64 0, .int .i64 0, .int .i64 0, .int .i64 0] 25)) w.heap.size a1 a2 a3 a4) := RA.out.call (below_one _ _)
        have RB : Hid (R4 (w2.alloc (.cells #[.int .i64 0, .int .i64 0, .int .i64 0, .int .i64 0] 25)) (w.heap.size + 1) b1 b2 b3 b4) := RB.out.call (below_one _ _)
        have RG0 : Hid (R4 (w2.alloc (.cells #[.int .i64 0, .int .i64 0, .int .i64 0, .int .i64 0] 25)) G0 R.1 R.2.1 R.2.2.1 R.2.2.2.1) := RG0.out.call (below_one _ _)
        generalize w2.alloc (.cells #[.int .i64 0, .int .i64 0, .int .i64 0, .int .i64 0] 25) = w2 at B0 RG1 RA RB RG0 ⊢
        refine wpI_only (i := 3) rfl (by kernel_rfl) ⟨RA.out, RB.out⟩ (by rfl) ?_
        intro K hK
        go_simp
        go_wp2_with (go_at_call 15; (with_reducible refine (toQ_any b1 b2 b3 b4 _).mono ?_); rintro e w2 ⟨rfl, hb⟩; have RA : Hid (R4 w2 w.heap.size a1 a2 a3 a4) := RA.out.call hb; have RB : Hid (R4 w2 (w.heap.size + 1) b1 b2 b3 b4) := RB.out.call hb; have RG0 : Hid (R4 w2 G0 R.1 R.2.1 R.2.2.1 R.2.2.2.1) := RG0.out.call hb; have RG1 : Hid (R4 w2 G1 0 0 0 0) := RG1.out.call hb; have B0 : Hid (Below w.heap.size w w2) := bstep B0.out hb; clear hb)
        refine wpI_only (i := 4) rfl (by kernel_rfl) ⟨RA.out, RB.out⟩ (by rfl) ?_
        intro K hK
        go_simp
        go_wp2_with (go_at_call 10; (with_reducible refine (iAdd_any a1 a2 a3 a4 b1 b2 b3 b4 _).mono ?_); rintro e w2 ⟨rfl, hb⟩; have RA : Hid (R4 w2 w.heap.size a1 a2 a3 a4) := RA.out.call hb; have RB : Hid (R4 w2 (w.heap.size + 1) b1 b2 b3 b4) := RB.out.call hb; have RG0 : Hid (R4 w2 G0 R.1 R.2.1 R.2.2.1 R.2.2.2.1) := RG0.out.call hb; have RG1 : Hid (R4 w2 G1 0 0 0 0) := RG1.out.call hb; have B0 : Hid (Below w.heap.size w w2) := bstep B0.out hb; clear hb; rw [hR])
        refine wpI_take (i := 5) (v := ?_) rfl (by kernel_rfl) (by kernel_rfl) (by kernel_rfl) (fun _ _ _ h => h) ⟨by rfl, ?_⟩ ?_
        rotate_left
        · intro X _; go_simp; with_reducible rfl
        refine wpI_take (i := 6) (v := ?_) rfl (by kernel_rfl) (by kernel_rfl) (by kernel_rfl) (fun _ _ _ h => h) ⟨by rfl, ?_⟩ ?_
        rotate_left
        · intro X _; go_simp; with_reducible rfl
        refine wpI_take (i := 7) (v := ?_) rfl (by kernel_rfl) (by kernel_rfl) (by kernel_rfl) (fun _ _ _ h => h) ⟨by rfl, ?_⟩ ?_
        rotate_left
        · intro X _; go_simp; with_reducible rfl
        refine wpI_only (i := 9) rfl (by kernel_rfl) ⟨RA.out, RB.out⟩ (by rfl) ?_
        intro K hK
        obtain ⟨z0, z1, z2, z3, zf⟩ := RG1.out
        have f0 := zf 0
        have f1 := zf 1
        have f2 := zf 2
        have f3 := zf 3
        go_simp
        refine hK _ _ ?_
        clear f0 f1 f2 f3 z0 z1 z2 z3 zf
        have RG1 : Hid (R4 ((((w2.setCell ⟨G1, 0, none⟩ (.int .i64 R.1)).setCell ⟨G1, 1, none⟩ (.int .i64 R.2.1)).setCell ⟨G1, 2, none⟩ (.int .i64 R.2.2.1)).setCell ⟨G1, 3, none⟩ (.int .i64 R.2.2.2.1)) G1 R.1 R.2.1 R.2.2.1 R.2.2.2.1) := (((RG1.out.put0 _).put1 _).put2 _).put3 _
        have RA : Hid (R4 ((((w2.setCell ⟨G1, 0, none⟩ (.int .i64 R.1)).setCell ⟨G1, 1, none⟩ (.int .i64 R.2.1)).setCell ⟨G1, 2, none⟩ (.int .i64 R.2.2.1)).setCell ⟨G1, 3, none⟩ (.int .i64 R.2.2.2.1)) w.heap.size a1 a2 a3 a4) := (((RA.out.off (Nat.ne_of_lt lG1_RA.out) _ _).off (Nat.ne_of_lt lG1_RA.out) _ _).off (Nat.ne_of_lt lG1_RA.out) _ _).off (Nat.ne_of_lt lG1_RA.out) _ _
        have RB : Hid (R4 ((((w2.setCell ⟨G1, 0, none⟩ (.int .i64 R.1)).setCell ⟨G1, 1, none⟩ (.int .i64 R.2.1)).setCell ⟨G1, 2, none⟩ (.int .i64 R.2.2.1)).setCell ⟨G1, 3, none⟩ (.int .i64 R.2.2.2.1)) (w.heap.size + 1) b1 b2 b3 b4) := (((RB.out.off (Nat.ne_of_lt lG1_RB.out) _ _).off (Nat.ne_of_lt lG1_RB.out) _ _).off (Nat.ne_of_lt lG1_RB.out) _ _).off (Nat.ne_of_lt lG1_RB.out) _ _
        have RG0 : Hid (R4 ((((w2.setCell ⟨G1, 0, none⟩ (.int .i64 R.1)).setCell ⟨G1, 1, none⟩ (.int .i64 R.2.1)).setCell ⟨G1, 2, none⟩ (.int .i64 R.2.2.1)).setCell ⟨G1, 3, none⟩ (.int .i64 R.2.2.2.1)) G0 R.1 R.2.1 R.2.2.1 R.2.2.2.1) := (((RG0.out.off (Nat.ne_of_lt lG1_RG0.out) _ _).off (Nat.ne_of_lt lG1_RG0.out) _ _).off (Nat.ne_of_lt lG1_RG0.out) _ _).off (Nat.ne_of_lt lG1_RG0.out) _ _
        have B0 : Hid (Below w.heap.size w ((((w2.setCell ⟨G1, 0, none⟩ (.int .i64 R.1)).setCell ⟨G1, 1, none⟩ (.int .i64 R.2.1)).setCell ⟨G1, 2, none⟩ (.int .i64 R.2.2.1)).setCell ⟨G1, 3, none⟩ (.int .i64 R.2.2.2.1))) := (((B0.out.setCell lw_G1.out _).setCell lw_G1.out _).setCell lw_G1.out _).setCell lw_G1.out _
        generalize (((w2.setCell ⟨G1, 0, none⟩ (.int .i64 R.1)).setCell ⟨G1, 1, none⟩ (.int .i64 R.2.1)).setCell ⟨G1, 2, none⟩ (.int .i64 R.2.2.1)).setCell ⟨G1, 3, none⟩ (.int .i64 R.2.2.2.1) = w2 at B0 RG1 RA RB RG0 ⊢
        refine wpI_take (i := 10) (v := ?_) rfl (by kernel_rfl) (by kernel_rfl) (by kernel_rfl) (fun _ _ _ h => h) ⟨by rfl, ?_⟩ ?_
        rotate_left
        · intro X _; go_simp; with_reducible rfl
        refine wpI_done ⟨RA.out, RB.out⟩ (by kernel_rfl) ?_ _
        obtain ⟨u0, u1, u2, u3, _⟩ := RG0.out
        obtain ⟨v0, v1, v2, v3, _⟩ := RG1.out
        go_wp2_with (go_at_call 17; (with_reducible refine (eqQ_any _ _ _ _ _ _ _ _ _ ⟨rfl, rfl, rfl, rfl⟩).mono ?_); rintro e w3 ⟨rfl, hb⟩; have B0 : Hid (Below w.heap.size w w3) := bstep B0.out hb; clear hb)
        go_ret
        exact ⟨rfl, B0.out⟩
    · intro K hK
      go_simp
      refine hK _ _ ?_
      have lG1_RA : Hid (w.heap.size < W1.heap.size) := World.block_lt_of_cell? _ _ RA.out.c0
      have lG1_RB : Hid ((w.heap.size + 1) < W1.heap.size) := World.block_lt_of_cell? _ _ RB.out.c0
      have lG1_RG0 : Hid (G0 < W1.heap.size) := World.block_lt_of_cell? _ _ RG0.out.c0
      have RG1 : Hid (R4 (W1.alloc (.cells #[.int .i64 0, .int .i64 0, .int .i64 0, .int .i64 0] 25)) W1.heap.size 0 0 0 0) := R4.new _ _ _ _ _ _
      generalize hGG : W1.heap.size = G1 at RG1 lG1_RA lG1_RB lG1_RG0 ⊢
      have lw_G1 : Hid (w.heap.size ≤ G1) := by rw [← hGG]; exact B0.out.size
      clear hGG
      have B0 : Hid (Below w.heap.size w (W1.alloc (.cells #[.int .i64 0, .int .i64 0, .int .i64 0, .int .i64 0] 25))) := bstep B0.out (below_one _ _)
      have RA : Hid (R4 (W1.alloc (.cells #[.int .i64 0, .int .i64 0, .int .i64 0, .int .i64 0] 25)) w.heap.size a1 a2 a3 a4) := RA.out.call (below_one _ _)
      have RB : Hid (R4 (W1.alloc (.cells #[.int .i64 0, .int .i64 0, .int .i64 0, .int .i64 0] 25)) (w.heap.size + 1) b1 b2 b3 b4) := RB.out.call (below_one _ _)
      have RG0 : Hid (R4 (W1.alloc (.cells #[.int .i64 0, .int .i64 0, .int .i64 0, .int .i64 0] 25)) G0 R.1 R.2.1 R.2.2.1 R.2.2.2.1) := RG0.out.call (below_one _ _)
      generalize W1.alloc (.cells #[.int .i64 0, .int .i64 0, .int .i64 0, .int .i64 0] 25) = w2 at B0 RG1 RA RB RG0 ⊢
      refine wpI_only (i := 1) rfl (by kernel_rfl) ⟨RA.out, RB.out⟩ (by rfl) ?_
      intro K hK
      go_simp
      go_wp2_with (go_at_call 15; (with_reducible refine (toQ_any a1 a2 a3 a4 _).mono ?_); rintro e w2 ⟨rfl, hb⟩; have RA : Hid (R4 w2 w.heap.size a1 a2 a3 a4) := RA.out.call hb; have RB : Hid (R4 w2 (w.heap.size + 1) b1 b2 b3 b4) := RB.out.call hb; have RG0 : Hid (R4 w2 G0 R.1 R.2.1 R.2.2.1 R.2.2.2.1) := RG0.out.call hb; have RG1 : Hid (R4 w2 G1 0 0 0 0) := RG1.out.call hb; have B0 : Hid (Below w.heap.size w w2) := bstep B0.out hb; clear hb)
      refine wpI_only (i := 3) rfl (by kernel_rfl) ⟨RA.out, RB.out⟩ (by rfl) ?_
      intro K hK
      go_simp
      go_wp2_with (go_at_call 15; (with_reducible refine (toQ_any b1 b2 b3 b4 _).mono ?_); rintro e w2 ⟨rfl, hb⟩; have RA : Hid (R4 w2 w.heap.size a1 a2 a3 a4) := RA.out.call hb; have RB : Hid (R4 w2 (w.heap.size + 1) b1 b2 b3 b4) := RB.out.call hb; have RG0 : Hid (R4 w2 G0 R.1 R.2.1 R.2.2.1 R.2.2.2.1) := RG0.out.call hb; have RG1 : Hid (R4 w2 G1 0 0 0 0) := RG1.out.call hb; have B0 : Hid (Below w.heap.size w w2) := bstep B0.out hb; clear hb)
      refine wpI_only (i := 4) rfl (by kernel_rfl) ⟨RA.out, RB.out⟩ (by rfl) ?_
      intro K hK
      go_simp
      go_wp2_with (go_at_call 10; (with_reducible refine (iAdd_any a1 a2 a3 a4 b1 b2 b3 b4 _).mono ?_); rintro e w2 ⟨rfl, hb⟩; have RA : Hid (R4 w2 w.heap.size a1 a2 a3 a4) := RA.out.call hb; have RB : Hid (R4 w2 (w.heap.size + 1) b1 b2 b3 b4) := RB.out.call hb; have RG0 : Hid (R4 w2 G0 R.1 R.2.1 R.2.2.1 R.2.2.2.1) := RG0.out.call hb; have RG1 : Hid (R4 w2 G1 0 0 0 0) := RG1.out.call hb; have B0 : Hid (Below w.heap.size w w2) := bstep B0.out hb; clear hb; rw [hR])
      refine wpI_take (i := 5) (v := ?_) rfl (by kernel_rfl) (by kernel_rfl) (by kernel_rfl) (fun _ _ _ h => h) ⟨by rfl, ?_⟩ ?_
      rotate_left
      · intro X _; go_simp; with_reducible rfl
      refine wpI_take (i := 6) (v := ?_) rfl (by kernel_rfl) (by kernel_rfl) (by kernel_rfl) (fun _ _ _ h => h) ⟨by rfl, ?_⟩ ?_
      rotate_left
      · intro X _; go_simp; with_reducible rfl
      refine wpI_take (i := 7) (v := ?_) rfl (by kernel_rfl) (by kernel_rfl) (by kernel_rfl) (fun _ _ _ h => h) ⟨by rfl, ?_⟩ ?_
      rotate_left
      · intro X _; go_simp; with_reducible rfl
      refine wpI_only (i := 9) rfl (by kernel_rfl) ⟨RA.out, RB.out⟩ (by rfl) ?_
      intro K hK
      obtain ⟨z0, z1, z2, z3, zf⟩ := RG1.out
      have f0 := zf 0
      have f1 := zf 1
      have f2 := zf 2
      have f3 := zf 3
      go_simp
      refine hK _ _ ?_
      clear f0 f1 f2 f3 z0 z1 z2 z3 zf
      have RG1 : Hid (R4 ((((w2.setCell ⟨G1, 0, none⟩ (.int .i64 R.1)).setCell ⟨G1, 1, none⟩ (.int .i64 R.2.1)).setCell ⟨G1, 2, none⟩ (.int .i64 R.2.2.1)).setCell ⟨G1, 3, none⟩ (.int .i64 R.2.2.2.1)) G1 R.1 R.2.1 R.2.2.1 R.2.2.2.1) := (((RG1.out.put0 _).put1 _).put2 _).put3 _
      have RA : Hid (R4 ((((w2.setCell ⟨G1, 0, none⟩ (.int .i64 R.1)).setCell ⟨G1, 1, none⟩ (.int .i64 R.2.1)).setCell ⟨G1, 2, none⟩ (.int .i64 R.2.2.1)).setCell ⟨G1, 3, none⟩ (.int .i64 R.2.2.2.1)) w.heap.size a1 a2 a3 a4) := (((RA.out.off (Nat.ne_of_lt lG1_RA.out) _ _).off (Nat.ne_of_lt lG1_RA.out) _ _).off (Nat.ne_of_lt lG1_RA.out) _ _).off (Nat.ne_of_lt lG1_RA.out) _ _
      have RB : Hid (R4 ((((w2.setCell ⟨G1, 0, none⟩ (.int .i64 R.1)).setCell ⟨G1, 1, none⟩ (.int .i64 R.2.1)).setCell ⟨G1, 2, none⟩ (.int .i64 R.2.2.1)).setCell ⟨G1, 3, none⟩ (.int .i64 R.2.2.2.1)) (w.heap.size + 1) b1 b2 b3 b4) := (((RB.out.off (Nat.ne_of_lt lG1_RB.out) _ _).off (Nat.ne_of_lt lG1_RB.out) _ _).off (Nat.ne_of_lt lG1_RB.out) _ _).off (Nat.ne_of_lt lG1_RB.out) _ _
      have RG0 : Hid (R4 ((((w2.setCell ⟨G1, 0, none⟩ (.int .i64 R.1)).setCell ⟨G1, 1, none⟩ (.int .i64 R.2.1)).setCell ⟨G1, 2, none⟩ (.int .i64 R.2.2.1)).setCell ⟨G1, 3, none⟩ (.int .i64 R.2.2.2.1)) G0 R.1 R.2.1 R.2.2.1 R.2.2.2.1) := (((RG0.out.off (Nat.ne_of_lt lG1_RG0.out) _ _).off (Nat.ne_of_lt lG1_RG0.out) _ _).off (Nat.ne_of_lt lG1_RG0.out) _ _).off (Nat.ne_of_lt lG1_RG0.out) _ _
      have B0 : Hid (Below w.heap.size w ((((w2.setCell ⟨G1, 0, none⟩ (.int .i64 R.1)).setCell ⟨G1, 1, none⟩ (.int .i64 R.2.1)).setCell ⟨G1, 2, none⟩ (.int .i64 R.2.2.1)).setCell ⟨G1, 3, none⟩ (.int .i64 R.2.2.2.1))) := (((B0.out.setCell lw_G1.out _).setCell lw_G1.out _).setCell lw_G1.out _).setCell lw_G1.out _
      generalize (((w2.setCell ⟨G1, 0, none⟩ (.int .i64 R.1)).setCell ⟨G1, 1, none⟩ (.int .i64 R.2.1)).setCell ⟨G1, 2, none⟩ (.int .i64 R.2.2.1)).setCell ⟨G1, 3, none⟩ (.int .i64 R.2.2.2.1) = w2 at B0 RG1 RA RB RG0 ⊢
      refine wpI_take (i := 10) (v := ?_) rfl (by kernel_rfl) (by kernel_rfl) (by kernel_rfl) (fun _ _ _ h => h) ⟨by rfl, ?_⟩ ?_
      rotate_left
      · intro X _; go_simp; with_reducible rfl
      refine wpI_done ⟨RA.out, RB.out⟩ (by kernel_rfl) ?_ _
      obtain ⟨u0, u1, u2, u3, _⟩ := RG0.out
      obtain ⟨v0, v1, v2, v3, _⟩ := RG1.out
      go_wp2_with (go_at_call 17; (with_reducible refine (eqQ_any _ _ _ _ _ _ _ _ _ ⟨rfl, rfl, rfl, rfl⟩).mono ?_); rintro e w3 ⟨rfl, hb⟩; have B0 : Hid (Below w.heap.size w w3) := bstep B0.out hb; clear hb)
      go_ret
      exact ⟨rfl, B0.out⟩
  generalize (((w).alloc (.cells #[.int .i64 a1, .int .i64 a2, .int .i64 a3, .int .i64 a4] 30)).alloc (.cells #[.int .i64 b1, .int .i64 b2, .int .i64 b3, .int .i64 b4] 30)) = W0 at RA RB B0 ⊢
  refine wp_region_any (by kernel_rfl) ?_
  change wpAny _ _ _ _ _ _ _ (World.drew _)
  have B0 : Hid (Below w.heap.size w W0.drew) := B0.out.drew
  have RA : Hid (R4 W0.drew w.heap.size a1 a2 a3 a4) := RA.out.drew
  have RB : Hid (R4 W0.drew (w.heap.size + 1) b1 b2 b3 b4) := RB.out.drew
  generalize W0.drew = W1 at B0 RA RB ⊢
  refine wpI_any (I := fun X => R4 X w.heap.size a1 a2 a3 a4 ∧ R4 X (w.heap.size + 1) b1 b2 b3 b4) _ _ _ _ ?_
  refine wpI_take (i := 0) (v := ?_) rfl (by kernel_rfl) (by kernel_rfl) (by kernel_rfl) (fun _ _ _ h => h) ⟨by rfl, ?_⟩ ?_
  rotate_left
  · intro X hI; obtain ⟨c0, c1, c2, c3, _⟩ := hI.1; go_simp; with_reducible rfl
  refine wpI_take (i := 2) (v := ?_) rfl (by kernel_rfl) (by kernel_rfl) (by kernel_rfl) (fun _ _ _ h => h) ⟨by rfl, ?_⟩ ?_
  rotate_left
  · intro X hI; obtain ⟨c0, c1, c2, c3, _⟩ := hI.2; go_simp; with_reducible rfl
  refine wpI_two (i := 1) (j := 8) rfl rfl (by kernel_rfl) ⟨RA.out, RB.out⟩ (by rfl) (by rfl) ?_ ?_
  · intro K hK
    go_simp
    go_wp2_with (go_at_call 15; (with_reducible refine (toQ_any a1 a2 a3 a4 _).mono ?_); rintro e w2 ⟨rfl, hb⟩; have RA : Hid (R4 w2 w.heap.size a1 a2 a3 a4) := RA.out.call hb; have RB : Hid (R4 w2 (w.heap.size + 1) b1 b2 b3 b4) := RB.out.call hb; have B0 : Hid (Below w.heap.size w w2) := bstep B0.out hb; clear hb)
    refine wpI_two (i := 3) (j := 8) rfl rfl (by kernel_rfl) ⟨RA.out, RB.out⟩ (by rfl) (by rfl) ?_ ?_
    · intro K hK
      go_simp
      go_wp2_with (go_at_call 15; (with_reducible refine (toQ_any b1 b2 b3 b4 _).mono ?_); rintro e w2 ⟨rfl, hb⟩; have RA : Hid (R4 w2 w.heap.size a1 a2 a3 a4) := RA.out.call hb; have RB : Hid (R4 w2 (w.heap.size + 1) b1 b2 b3 b4) := RB.out.call hb; have B0 : Hid (Below w.heap.size w w2) := bstep B0.out hb; clear hb)
      refine wpI_two (i := 4) (j := 8) rfl rfl (by kernel_rfl) ⟨RA.out, RB.out⟩ (by rfl) (by rfl) ?_ ?_
      · intro K hK
        go_simp
        go_wp2_with (go_at_call 12; (with_reducible refine (sAdd_any a1 a2 a3 a4 b1 b2 b3 b4 _).mono ?_); rintro e w2 ⟨rfl, hb⟩; have RA : Hid (R4 w2 w.heap.size a1 a2 a3 a4) := RA.out.call hb; have RB : Hid (R4 w2 (w.heap.size + 1) b1 b2 b3 b4) := RB.out.call hb; have B0 : Hid (Below w.heap.size w w2) := bstep B0.out hb; clear hb; rw [hR])
        refine wpI_take (i := 5) (v := ?_) rfl (by kernel_rfl) (by kernel_rfl) (by kernel_rfl) (fun _ _ _ h => h) ⟨by rfl, ?_⟩ ?_
        rotate_left
        · intro X _; go_simp; with_reducible rfl
        refine wpI_take (i := 6) (v := ?_) rfl (by kernel_rfl) (by kernel_rfl) (by kernel_rfl) (fun _ _ _ h => h) ⟨by rfl, ?_⟩ ?_
        rotate_left
        · intro X _; go_simp; with_reducible rfl
        refine wpI_take (i := 7) (v := ?_) rfl (by kernel_rfl) (by kernel_rfl) (by kernel_rfl) (fun _ _ _ h => h) ⟨by rfl, ?_⟩ ?_
        rotate_left
        · intro X _; go_simp; with_reducible rfl
        refine wpI_only (i := 8) rfl (by kernel_rfl) ⟨RA.out, RB.out⟩ (by rfl) ?_
        intro K hK
        go_simp
        refine hK _ _ ?_
        have lG0_RA : Hid (w.heap.size < w2.heap.size) := World.block_lt_of_cell? _ _ RA.out.c0
        have lG0_RB : Hid ((w.heap.size + 1) < w2.heap.size) := World.block_lt_of_cell? _ _ RB.out.c0
        have RG0 : Hid (R4 (w2.alloc (.cells #[.int .i64 0, .int .i64 0, .int .i64 0, .int .i64 0] 25)) w2.heap.size 0 0 0 0) := R4.new _ _ _ _ _ _
        generalize hGG : w2.heap.size = G0 at RG0 lG0_RA lG0_RB ⊢
        have lw_G0 : Hid (w.heap.size ≤ G0) := by rw [← hGG]; exact B0.out.size
        clear hGG
        have B0 : Hid (Below w.heap.size w (w2.alloc (.cells #[.int .i64 0, .int .i64 0, .int .i64 0, .int .i64 0] 25))) := bstep B0.out (below_one _ _)
        have RA : Hid (R4 (w2.alloc (.cells #[.int .i64 0, .int .i64 0, .int .i64 0, .int .i64 0] 25)) w.heap.size a1 a2 a3 a4) := RA.out.call (below_one _ _)
        have RB : Hid (R4 (w2.alloc (.cells #[.int .i64 0, .int .i64 0, .int .i64 0, .int .i64 0] 25)) (w.heap.size + 1) b1 b2 b3 b4) := RB.out.call (below_one _ _)
        generalize w2.alloc (.cells #[.int .i64 0, .int .i64 0, .int .i64 0, .int .i64 0] 25) = w2 at B0 RG0 RA RB ⊢
        refine wpI_only (i := 9) rfl (by kernel_rfl) ⟨RA.out, RB.out⟩ (by rfl) ?_
        intro K hK
        obtain ⟨z0, z1, z2, z3, zf⟩ := RG0.out
        have f0 := zf 0
        have f1 := zf 1
        have f2 := zf 2
        have f3 := zf 3
        go_simp
        refine hK _ _ ?_
        clear f0 f1 f2 f3 z0 z1 z2 z3 zf
        have RG0 : Hid (R4 ((((w2.setCell ⟨G0, 0, none⟩ (.int .i64 R.1)).setCell ⟨G0, 1, none⟩ (.int .i64 R.2.1)).setCell ⟨G0, 2, none⟩ (.int .i64 R.2.2.1)).setCell ⟨G0, 3, none⟩ (.int .i64 R.2.2.2.1)) G0 R.1 R.2.1 R.2.2.1 R.2.2.2.1) := (((RG0.out.put0 _).put1 _).put2 _).put3 _
        have RA : Hid (R4 ((((w2.setCell ⟨G0, 0, none⟩ (.int .i64 R.1)).setCell ⟨G0, 1, none⟩ (.int .i64 R.2.1)).setCell ⟨G0, 2, none⟩ (.int .i64 R.2.2.1)).setCell ⟨G0, 3, none⟩ (.int .i64 R.2.2.2.1)) w.heap.size a1 a2 a3 a4) := (((RA.out.off (Nat.ne_of_lt lG0_RA.out) _ _).off (Nat.ne_of_lt lG0_RA.out) _ _).off (Nat.ne_of_lt lG0_RA.out) _ _).off (Nat.ne_of_lt lG0_RA.out) _ _
        have RB : Hid (R4 ((((w2.setCell ⟨G0, 0, none⟩ (.int .i64 R.1)).setCell ⟨G0, 1, none⟩ (.int .i64 R.2.1)).setCell ⟨G0, 2, none⟩ (.int .i64 R.2.2.1)).setCell ⟨G0, 3, none⟩ (.int .i64 R.2.2.2.1)) (w.heap.size + 1) b1 b2 b3 b4) := (((RB.out.off (Nat.ne_of_lt lG0_RB.out) _ _).off (Nat.ne_of_lt lG0_RB.out) _ _).off (Nat.ne_of_lt lG0_RB.out) _ _).off (Nat.ne_of_lt lG0_RB.out) _ _
        have B0 : Hid (Below w.heap.size w ((((w2.setCell ⟨G0, 0, none⟩ (.int .i64 R.1)).setCell ⟨G0, 1, none⟩ (.int .i64 R.2.1)).setCell ⟨G0, 2, none⟩ (.int .i64 R.2.2.1)).setCell ⟨G0, 3, none⟩ (.int .i64 R.2.2.2.1))) := (((B0.out.setCell lw_G0.out _).setCell lw_G0.out _).setCell lw_G0.out _).setCell lw_G0.out _
        generalize (((w2.setCell ⟨G0, 0, none⟩ (.int .i64 R.1)).setCell ⟨G0, 1, none⟩ (.int .i64 R.2.1)).setCell ⟨G0, 2, none⟩ (.int .i64 R.2.2.1)).setCell ⟨G0, 3, none⟩ (.int .i64 R.2.2.2.1) = w2 at B0 RG0 RA RB ⊢
        refine wpI_take (i := 10) (v := ?_) rfl (by kernel_rfl) (by kernel_rfl) (by kernel_rfl) (fun _ _ _ h => h) ⟨by rfl, ?_⟩ ?_
        rotate_left
        · intro X _; go_simp; with_reducible rfl
        refine wpI_done ⟨RA.out, RB.out⟩ (by kernel_rfl) ?_ _
        exact rest1 _ _ B0 RA RB RG0
      · intro K hK
        go_simp
        refine hK _ _ ?_
        have lG0_RA : Hid (w.heap.size < w2.heap.size) := World.block_lt_of_cell? _ _ RA.out.c0
        have lG0_RB : Hid ((w.heap.size + 1) < w2.heap.size) := World.block_lt_of_cell? _ _ RB.out.c0
        have RG0 : Hid (R4 (w2.alloc (.cells #[.int .i64 0, .int .i64 0, .int .i64 0, .int .i64 0] 25)) w2.heap.size 0 0 0 0) := R4.new _ _ _ _ _ _
        generalize hGG : w2.heap.size = G0 at RG0 lG0_RA lG0_RB ⊢
        have lw_G0 : Hid (w.heap.size ≤ G0) := by rw [← hGG]; exact B0.out.size
        clear hGG
        have B0 : Hid (Below w.heap.size w (w2.alloc (.cells #[.int .i64 0, .int .i64 0, .int .i64 0, .int .i64 0] 25))) := bstep B0.out (below_one _ _)
        have RA : Hid (R4 (w2.alloc (.cells #[.int .i64 0, .int .i64 0, .int .i64 0, .int .i64 0] 25)) w.heap.size a1 a2 a3 a4) := RA.out.call (below_one _ _)
        have RB : Hid (R4 (w2.alloc (.cells #[.int .i64 0, .int .i64 0, .int .i64 0, .int .i64 0] 25)) (w.heap.size + 1) b1 b2 b3 b4) := RB.out.call (below_one _ _)
        generalize w2.alloc (.cells #[.int .i64 0, .int .i64 0, .int .i64 0, .int .i64 0] 25) = w2 at B0 RG0 RA RB ⊢
        refine wpI_only (i := 4) rfl (by kernel_rfl) ⟨RA.out, RB.out⟩ (by rfl) ?_
        intro K hK
        go_simp
        go_wp2_with (go_at_call 12; (with_reducible refine (sAdd_any a1 a2 a3 a4 b1 b2 b3 b4 _).mono ?_); rintro e w2 ⟨rfl, hb⟩; have RA : Hid (R4 w2 w.heap.size a1 a2 a3 a4) := RA.out.call hb; have RB : Hid (R4 w2 (w.heap.size + 1) b1 b2 b3 b4) := RB.out.call hb; have RG0 : Hid (R4 w2 G0 0 0 0 0) := RG0.out.call hb; have B0 : Hid (Below w.heap.size w w2) := bstep B0.out hb; clear hb; rw [hR])
        refine wpI_take (i := 5) (v := ?_) rfl (by kernel_rfl) (by kernel_rfl) (by kernel_rfl) (fun _ _ _ h => h) ⟨by rfl, ?_⟩ ?_
        rotate_left
        · intro X _; go_simp; with_reducible rfl
        refine wpI_take (i := 6) (v := ?_) rfl (by kernel_rfl) (by kernel_rfl) (by kernel_rfl) (fun _ _ _ h => h) ⟨by rfl, ?_⟩ ?_
        rotate_left
        · intro X _; go_simp; with_reducible rfl
        refine wpI_take (i := 7) (v := ?_) rfl (by kernel_rfl) (by kernel_rfl) (by kernel_rfl) (fun _ _ _ h => h) ⟨by rfl, ?_⟩ ?_
        rotate_left
        · intro X _; go_simp; with_reducible rfl
        refine wpI_only (i := 9) rfl (by kernel_rfl) ⟨RA.out, RB.out⟩ (by rfl) ?_
        intro K hK
        obtain ⟨z0, z1, z2, z3, zf⟩ := RG0.out
        have f0 := zf 0
        have f1 := zf 1
        have f2 := zf 2
        have f3 := zf 3
        go_simp
        refine hK _ _ ?_
        clear f0 f1 f2 f3 z0 z1 z2 z3 zf
        have RG0 : Hid (R4 ((((w2.setCell ⟨G0, 0, none⟩ (.int .i64 R.1)).setCell ⟨G0, 1, none⟩ (.int .i64 R.2.1)).setCell ⟨G0, 2, none⟩ (.int .i64 R.2.2.1)).setCell ⟨G0, 3, none⟩ (.int .i64 R.2.2.2.1)) G0 R.1 R.2.1 R.2.2.1 R.2.2.2.1) := (((RG0.out.put0 _).put1 _).put2 _).put3 _
        have RA : Hid (R4 ((((w2.setCell ⟨G0, 0, none⟩ (.int .i64 R.1)).setCell ⟨G0, 1, none⟩ (.int .i64 R.2.1)).setCell ⟨G0, 2, none⟩ (.int .i64 R.2.2.1)).setCell ⟨G0, 3, none⟩ (.int .i64 R.2.2.2.1)) w.heap.size a1 a2 a3 a4) := (((RA.out.off (Nat.ne_of_lt lG0_RA.out) _ _).off (Nat.ne_of_lt lG0_RA.out) _ _).off (Nat.ne_of_lt lG0_RA.out) _ _).off (Nat.ne_of_lt lG0_RA.out) _ _
        have RB : Hid (R4 ((((w2.setCell ⟨G0, 0, none⟩ (.int .i64 R.1)).setCell ⟨G0, 1, none⟩ (.int .i64 R.2.1)).setCell ⟨G0, 2, none⟩ (.int .i64 R.2.2.1)).setCell ⟨G0, 3, none⟩ (.int .i64 R.2.2.2.1)) (w.heap.size + 1) b1 b2 b3 b4) := (((RB.out.off (Nat.ne_of_lt lG0_RB.out) _ _).off (Nat.ne_of_lt lG0_RB.out) _ _).off (Nat.ne_of_lt lG0_RB.out) _ _).off (Nat.ne_of_lt lG0_RB.out) _ _
        have B0 : Hid (Below w.heap.size w ((((w2.setCell ⟨G0, 0, none⟩ (.int .i64 R.1)).setCell ⟨G0, 1, none⟩ (.int .i64 R.2.1)).setCell ⟨G0, 2, none⟩ (.int .i64 R.2.2.1)).setCell ⟨G0, 3, none⟩ (.int .i64 R.2.2.2.1))) := (((B0.out.setCell lw_G0.out _).setCell lw_G0.out _).setCell lw_G0.out _).setCell lw_G0.out _
        generalize (((w2.setCell ⟨G0, 0, none⟩ (.int .i64 R.1)).setCell ⟨G0, 1, none⟩ (.int .i64 R.2.1)).setCell ⟨G0, 2, none⟩ (.int .i64 R.2.2.1)).setCell ⟨G0, 3, none⟩ (.int .i64 R.2.2.2.1) = w2 at B0 RG0 RA RB ⊢
        refine wpI_take (i := 10) (v := ?_) rfl (by kernel_rfl) (by kernel_rfl) (by kernel_rfl) (fun _ _ _ h => h) ⟨by rfl, ?_⟩ ?_
        rotate_left
        · intro X _; go_simp; with_reducible rfl
        refine wpI_done ⟨RA.out, RB.out⟩ (by kernel_rfl) ?_ _
        exact rest1 _ _ B0 RA RB RG0
    · intro K hK
      go_simp
      refine hK _ _ ?_
      have lG0_RA : Hid (w.heap.size < w2.heap.size) := World.block_lt_of_cell? _ _ RA.out.c0
      have lG0_RB : Hid ((w.heap.size + 1) < w2.heap.size) := World.block_lt_of_cell? _ _ RB.out.c0
      have RG0 : Hid (R4 (w2.alloc (.cells #[.int .i64 0, .int .i64 0, .int .i64 0, .int .i64 0] 25)) w2.heap.size 0 0 0 0) := R4.new _ _ _ _ _ _
      generalize hGG : w2.heap.size = G0 at RG0 lG0_RA lG0_RB ⊢
      have lw_G0 : Hid (w.heap.size ≤ G0) := by rw [← hGG]; exact B0.out.size
      clear hGG
      have B0 : Hid (Below w.heap.size w (w2.alloc (.cells #[.int .i64 0, .int .i64 0, .int .i64 0, .int .i64 0] 25))) := bstep B0.out (below_one _ _)
      have RA : Hid (R4 (w2.alloc (.cells #[.int .i64 0, .int .i64 0, .int .i64 0, .int .i64 0] 25)) w.heap.size a1 a2 a3 a4) := RA.out.call (below_one _ _)
      have RB : Hid (R4 (w2.alloc (.cells #[.int .i64 0, .int .i64 0, .int .i64 0, .int .i64 0] 25)) (w.heap.size + 1) b1 b2 b3 b4) := RB.out.call (below_one _ _)
      generalize w2.alloc (.cells #[.int .i64 0, .int .i64 0, .int .i64 0, .int .i64 0] 25) = w2 at B0 RG0 RA RB ⊢
      refine wpI_only (i := 3) rfl (by kernel_rfl) ⟨RA.out, RB.out⟩ (by rfl) ?_
      intro K hK
      go_simp
      go_wp2_with (go_at_call 15; (with_reducible refine (toQ_any b1 b2 b3 b4 _).mono ?_); rintro e w2 ⟨rfl, hb⟩; have RA : Hid (R4 w2 w.heap.size a1 a2 a3 a4) := RA.out.call hb; have RB : Hid (R4 w2 (w.heap.size + 1) b1 b2 b3 b4) := RB.out.call hb; have RG0 : Hid (R4 w2 G0 0 0 0 0) := RG0.out.call hb; have B0 : Hid (Below w.heap.size w w2) := bstep B0.out hb; clear hb)
      refine wpI_only (i := 4) rfl (by kernel_rfl) ⟨RA.out, RB.out⟩ (by rfl) ?_
      intro K hK
      go_simp
      go_wp2_with (go_at_call 12; (with_reducible refine (sAdd_any a1 a2 a3 a4 b1 b2 b3 b4 _).mono ?_); rintro e w2 ⟨rfl, hb⟩; have RA : Hid (R4 w2 w.heap.size a1 a2 a3 a4) := RA.out.call hb; have RB : Hid (R4 w2 (w.heap.size + 1) b1 b2 b3 b4) := RB.out.call hb; have RG0 : Hid (R4 w2 G0 0 0 0 0) := RG0.out.call hb; have B0 : Hid (Below w.heap.size w w2) := bstep B0.out hb; clear hb; rw [hR])
      refine wpI_take (i := 5) (v := ?_) rfl (by kernel_rfl) (by kernel_rfl) (by kernel_rfl) (fun _ _ _ h => h) ⟨by rfl, ?_⟩ ?_
      rotate_left
      · intro X _; go_simp; with_reducible rfl
      refine wpI_take (i := 6) (v := ?_) rfl (by kernel_rfl) (by kernel_rfl) (by kernel_rfl) (fun _ _ _ h => h) ⟨by rfl, ?_⟩ ?_
      rotate_left
      · intro X _; go_simp; with_reducible rfl
      refine wpI_take (i := 7) (v := ?_) rfl (by kernel_rfl) (by kernel_rfl) (by kernel_rfl) (fun _ _ _ h => h) ⟨by rfl, ?_⟩ ?_
      rotate_left
      · intro X _; go_simp; with_reducible rfl
      refine wpI_only (i := 9) rfl (by kernel_rfl) ⟨RA.out, RB.out⟩ (by rfl) ?_
      intro K hK
      obtain ⟨z0, z1, z2, z3, zf⟩ := RG0.out
      have f0 := zf 0
      have f1 := zf 1
      have f2 := zf 2
      have f3 := zf 3
      go_simp
      refine hK _ _ ?_
      clear f0 f1 f2 f3 z0 z1 z2 z3 zf
      have RG0 : Hid (R4 ((((w2.setCell ⟨G0, 0, none⟩ (.int .i64 R.1)).setCell ⟨G0, 1, none⟩ (.int .i64 R.2.1)).setCell ⟨G0, 2, none⟩ (.int .i64 R.2.2.1)).setCell ⟨G0, 3, none⟩ (.int .i64 R.2.2.2.1)) G0 R.1 R.2.1 R.2.2.1 R.2.2.2.1) := (((RG0.out.put0 _).put1 _).put2 _).put3 _
      have RA : Hid (R4 ((((w2.setCell ⟨G0, 0, none⟩ (.int .i64 R.1)).setCell ⟨G0, 1, none⟩ (.int .i64 R.2.1)).setCell ⟨G0, 2, none⟩ (.int .i64 R.2.2.1)).setCell ⟨G0, 3, none⟩ (.int .i64 R.2.2.2.1)) w.heap.size a1 a2 a3 a4) := (((RA.out.off (Nat.ne_of_lt lG0_RA.out) _ _).off (Nat.ne_of_lt lG0_RA.out) _ _).off (Nat.ne_of_lt lG0_RA.out) _ _).off (Nat.ne_of_lt lG0_RA.out) _ _
      have RB : Hid (R4 ((((w2.setCell ⟨G0, 0, none⟩ (.int .i64 R.1)).setCell ⟨G0, 1, none⟩ (.int .i64 R.2.1)).setCell ⟨G0, 2, none⟩ (.int .i64 R.2.2.1)).setCell ⟨G0, 3, none⟩ (.int .i64 R.2.2.2.1)) (w.heap.size + 1) b1 b2 b3 b4) := (((RB.out.off (Nat.ne_of_lt lG0_RB.out) _ _).off (Nat.ne_of_lt lG0_RB.out) _ _).off (Nat.ne_of_lt lG0_RB.out) _ _).off (Nat.ne_of_lt lG0_RB.out) _ _
      have B0 : Hid (Below w.heap.size w ((((w2.setCell ⟨G0, 0, none⟩ (.int .i64 R.1)).setCell ⟨G0, 1, none⟩ (.int .i64 R.2.1)).setCell ⟨G0, 2, none⟩ (.int .i64 R.2.2.1)).setCell ⟨G0, 3, none⟩ (.int .i64 R.2.2.2.1))) := (((B0.out.setCell lw_G0.out _).setCell lw_G0.out _).setCell lw_G0.out _).setCell lw_G0.out _
      generalize (((w2.setCell ⟨G0, 0, none⟩ (.int .i64 R.1)).setCell ⟨G0, 1, none⟩ (.int .i64 R.2.1)).setCell ⟨G0, 2, none⟩ (.int .i64 R.2.2.1)).setCell ⟨G0, 3, none⟩ (.int .i64 R.2.2.2.1) = w2 at B0 RG0 RA RB ⊢
      refine wpI_take (i := 10) (v := ?_) rfl (by kernel_rfl) (by kernel_rfl) (by kernel_rfl) (fun _ _ _ h => h) ⟨by rfl, ?_⟩ ?_
      rotate_left
      · intro X _; go_simp; with_reducible rfl
      refine wpI_done ⟨RA.out, RB.out⟩ (by kernel_rfl) ?_ _
      exact rest1 _ _ B0 RA RB RG0
  · intro K hK
    go_simp
    refine hK _ _ ?_
    have lG0_RA : Hid (w.heap.size < W1.heap.size) := World.block_lt_of_cell? _ _ RA.out.c0
    have lG0_RB : Hid ((w.heap.size + 1) < W1.heap.size) := World.block_lt_of_cell? _ _ RB.out.c0
    have RG0 : Hid (R4 (W1.alloc (.cells #[.int .i64 0, .int .i64 0, .int .i64 0, .int .i64 0] 25)) W1.heap.size 0 0 0 0) := R4.new _ _ _ _ _ _
    generalize hGG : W1.heap.size = G0 at RG0 lG0_RA lG0_RB ⊢
    have lw_G0 : Hid (w.heap.size ≤ G0) := by rw [← hGG]; exact B0.out.size
    clear hGG
    have B0 : Hid (Below w.heap.size w (W1.alloc (.cells #[.int .i64 0, .int .i64 0, .int .i64 0, .int .i64 0] 25))) := bstep B0.out (below_one _ _)
    have RA : Hid (R4 (W1.alloc (.cells #[.int .i64 0, .int .i64 0, .int .i64 0, .int .i64 0] 25)) w.heap.size a1 a2 a3 a4) := RA.out.call (below_one _ _)
    have RB : Hid (R4 (W1.alloc (.cells #[.int .i64 0, .int .i64 0, .int .i64 0, .int .i64 0] 25)) (w.heap.size + 1) b1 b2 b3 b4) := RB.out.call (below_one _ _)
    generalize W1.alloc (.cells #[.int .i64 0, .int .i64 0, .int .i64 0, .int .i64 0] 25) = w2 at B0 RG0 RA RB ⊢
    refine wpI_only (i := 1) rfl (by kernel_rfl) ⟨RA.out, RB.out⟩ (by rfl) ?_
    intro K hK
    go_simp
    go_wp2_with (go_at_call 15; (with_reducible refine (toQ_any a1 a2 a3 a4 _).mono ?_); rintro e w2 ⟨rfl, hb⟩; have RA : Hid (R4 w2 w.heap.size a1 a2 a3 a4) := RA.out.call hb; have RB : Hid (R4 w2 (w.heap.size + 1) b1 b2 b3 b4) := RB.out.call hb; have RG0 : Hid (R4 w2 G0 0 0 0 0) := RG0.out.call hb; have B0 : Hid (Below w.heap.size w w2) := bstep B0.out hb; clear hb)
    refine wpI_only (i := 3) rfl (by kernel_rfl) ⟨RA.out, RB.out⟩ (by rfl) ?_
    intro K hK
    go_simp
    go_wp2_with (go_at_call 15; (with_reducible refine (toQ_any b1 b2 b3 b4 _).mono ?_); rintro e w2 ⟨rfl, hb⟩; have RA : Hid (R4 w2 w.heap.size a1 a2 a3 a4) := RA.out.call hb; have RB : Hid (R4 w2 (w.heap.size + 1) b1 b2 b3 b4) := RB.out.call hb; have RG0 : Hid (R4 w2 G0 0 0 0 0) := RG0.out.call hb; have B0 : Hid (Below w.heap.size w w2) := bstep B0.out hb; clear hb)
    refine wpI_only (i := 4) rfl (by kernel_rfl) ⟨RA.out, RB.out⟩ (by rfl) ?_
    intro K hK
    go_simp
    go_wp2_with (go_at_call 12; (with_reducible refine (sAdd_any a1 a2 a3 a4 b1 b2 b3 b4 _).mono ?_); rintro e w2 ⟨rfl, hb⟩; have RA : Hid (R4 w2 w.heap.size a1 a2 a3 a4) := RA.out.call hb; have RB : Hid (R4 w2 (w.heap.size + 1) b1 b2 b3 b4) := RB.out.call hb; have RG0 : Hid (R4 w2 G0 0 0 0 0) := RG0.out.call hb; have B0 : Hid (Below w.heap.size w w2) := bstep B0.out hb; clear hb; rw [hR])
    refine wpI_take (i := 5) (v := ?_) rfl (by kernel_rfl) (by kernel_rfl) (by kernel_rfl) (fun _ _ _ h => h) ⟨by rfl, ?_⟩ ?_
    rotate_left
    · intro X _; go_simp; with_reducible rfl
    refine wpI_take (i := 6) (v := ?_) rfl (by kernel_rfl) (by kernel_rfl) (by kernel_rfl) (fun _ _ _ h => h) ⟨by rfl, ?_⟩ ?_
    rotate_left
    · intro X _; go_simp; with_reducible rfl
    refine wpI_take (i := 7) (v := ?_) rfl (by kernel_rfl) (by kernel_rfl) (by kernel_rfl) (fun _ _ _ h => h) ⟨by rfl, ?_⟩ ?_
    rotate_left
    · intro X _; go_simp; with_reducible rfl
    refine wpI_only (i := 9) rfl (by kernel_rfl) ⟨RA.out, RB.out⟩ (by rfl) ?_
    intro K hK
    obtain ⟨z0, z1, z2, z3, zf⟩ := RG0.out
    have f0 := zf 0
    have f1 := zf 1
    have f2 := zf 2
    have f3 := zf 3
    go_simp
    refine hK _ _ ?_
    clear f0 f1 f2 f3 z0 z1 z2 z3 zf
    have RG0 : Hid (R4 ((((w2.setCell ⟨G0, 0, none⟩ (.int .i64 R.1)).setCell ⟨G0, 1, none⟩ (.int .i64 R.2.1)).setCell ⟨G0, 2, none⟩ (.int .i64 R.2.2.1)).setCell ⟨G0, 3, none⟩ (.int .i64 R.2.2.2.1)) G0 R.1 R.2.1 R.2.2.1 R.2.2.2.1) := (((RG0.out.put0 _).put1 _).put2 _).put3 _
    have RA : Hid (R4 ((((w2.setCell ⟨G0, 0, none⟩ (.int .i64 R.1)).setCell ⟨G0, 1, none⟩ (.int .i64 R.2.1)).setCell ⟨G0, 2, none⟩ (.int .i64 R.2.2.1)).setCell ⟨G0, 3, none⟩ (.int .i64 R.2.2.2.1)) w.heap.size a1 a2 a3 a4) := (((RA.out.off (Nat.ne_of_lt lG0_RA.out) _ _).off (Nat.ne_of_lt lG0_RA.out) _ _).off (Nat.ne_of_lt lG0_RA.out) _ _).off (Nat.ne_of_lt lG0_RA.out) _ _
    have RB : Hid (R4 ((((w2.setCell ⟨G0, 0, none⟩ (.int .i64 R.1)).setCell ⟨G0, 1, none⟩ (.int .i64 R.2.1)).setCell ⟨G0, 2, none⟩ (.int .i64 R.2.2.1)).setCell ⟨G0, 3, none⟩ (.int .i64 R.2.2.2.1)) (w.heap.size + 1) b1 b2 b3 b4) := (((RB.out.off (Nat.ne_of_lt lG0_RB.out) _ _).off (Nat.ne_of_lt lG0_RB.out) _ _).off (Nat.ne_of_lt lG0_RB.out) _ _).off (Nat.ne_of_lt lG0_RB.out) _ _
    have B0 : Hid (Below w.heap.size w ((((w2.setCell ⟨G0, 0, none⟩ (.int .i64 R.1)).setCell ⟨G0, 1, none⟩ (.int .i64 R.2.1)).setCell ⟨G0, 2, none⟩ (.int .i64 R.2.2.1)).setCell ⟨G0, 3, none⟩ (.int .i64 R.2.2.2.1))) := (((B0.out.setCell lw_G0.out _).setCell lw_G0.out _).setCell lw_G0.out _).setCell lw_G0.out _
    generalize (((w2.setCell ⟨G0, 0, none⟩ (.int .i64 R.1)).setCell ⟨G0, 1, none⟩ (.int .i64 R.2.1)).setCell ⟨G0, 2, none⟩ (.int .i64 R.2.2.1)).setCell ⟨G0, 3, none⟩ (.int .i64 R.2.2.2.1) = w2 at B0 RG0 RA RB ⊢
    refine wpI_take (i := 10) (v := ?_) rfl (by kernel_rfl) (by kernel_rfl) (by kernel_rfl) (fun _ _ _ h => h) ⟨by rfl, ?_⟩ ?_
    rotate_left
    · intro X _; go_simp; with_reducible rfl
    refine wpI_done ⟨RA.out, RB.out⟩ (by kernel_rfl) ?_ _
    exact rest1 _ _ B0 RA RB RG0

end Go.Proofs.Ytonjgielpcofeaa
