/- Two quantities drawn. -/
import Derived.Test.YtonjgielpcofeaaSA
namespace Go.Proofs.Ytonjgielpcofeaa
open Go.RowKit

set_option maxHeartbeats 2000000 in
theorem drawAdd_x {w : World} {a : Option Addr} {len cap : Nat} (hr : Row w a len) (hl : (len : Int) ≤ 4611686018427387904) :
    Calls Try.prog 9 #[.slice a len cap] w fun e w' => ∃ a1 a2 a3 a4 b1 b2 b3 b4 : Int, e = .returned (.tuple #[.agg #[.int .i64 a1, .int .i64 a2, .int .i64 a3, .int .i64 a4], .agg #[.int .i64 b1, .int .i64 b2, .int .i64 b3, .int .i64 b4]]) ∧ Below w.heap.size w w' := by
  have hr2 : Row ((w.alloc (.cells #[.int .i64 0, .int .i64 0, .int .i64 0, .int .i64 0] 25)).alloc (.cells #[.int .i64 0, .int .i64 0, .int .i64 0, .int .i64 0] 25)) a len := (hr.below (below_one w (.cells #[.int .i64 0, .int .i64 0, .int .i64 0, .int .i64 0] 25))).below (below_one _ (.cells #[.int .i64 0, .int .i64 0, .int .i64 0, .int .i64 0] 25))
  have B0 : Hid (Below w.heap.size w ((w.alloc (.cells #[.int .i64 0, .int .i64 0, .int .i64 0, .int .i64 0] 25)).alloc (.cells #[.int .i64 0, .int .i64 0, .int .i64 0, .int .i64 0] 25))) := bstep (below_one w _) (below_one _ _)
  have R0 : Hid (R4 ((w.alloc (.cells #[.int .i64 0, .int .i64 0, .int .i64 0, .int .i64 0] 25)).alloc (.cells #[.int .i64 0, .int .i64 0, .int .i64 0, .int .i64 0] 25)) w.heap.size 0 0 0 0) := (R4.new w 25 0 0 0 0).call (below_one _ _)
  have R1 : Hid (R4 ((w.alloc (.cells #[.int .i64 0, .int .i64 0, .int .i64 0, .int .i64 0] 25)).alloc (.cells #[.int .i64 0, .int .i64 0, .int .i64 0, .int .i64 0] 25)) (w.heap.size + 1) 0 0 0 0) := by have h := R4.new (w.alloc (.cells #[.int .i64 0, .int .i64 0, .int .i64 0, .int .i64 0] 25)) 25 0 0 0 0; simp only [World.heap_size_alloc] at h; exact h
  have hz : ((w.alloc (.cells #[.int .i64 0, .int .i64 0, .int .i64 0, .int .i64 0] 25)).alloc (.cells #[.int .i64 0, .int .i64 0, .int .i64 0, .int .i64 0] 25)).heap.size = w.heap.size + 2 := by simp
  go_enter Try.func9, Try.ntmps9
  go_upto_region 1 with fail
  generalize (w.alloc (.cells #[.int .i64 0, .int .i64 0, .int .i64 0, .int .i64 0] 25)).alloc (.cells #[.int .i64 0, .int .i64 0, .int .i64 0, .int .i64 0] 25) = w2 at hr2 B0 R0 R1 hz ⊢
  go_upto_region 2 with (go_at_call 20; (with_reducible refine (new_x hr2 hl).mono ?_); rintro e w3 ⟨rfl, hc, hb⟩; have CU : Hid (Cu w3 w2.heap.size a len cap) := hc; have B0 : Hid (Below w.heap.size w w3) := bstep B0.out hb; have R0 : Hid (R4 w3 w.heap.size 0 0 0 0) := R0.out.call hb; have R1 : Hid (R4 w3 (w.heap.size + 1) 0 0 0 0) := R1.out.call hb; clear hb hc)
  rw [hz] at CU
  obtain ⟨c, hcc⟩ : ∃ c, c = w.heap.size + 2 := ⟨_, rfl⟩
  rw [← hcc] at CU ⊢
  have hc2 : w.heap.size + 1 < c := by omega
  clear hcc hz
  have MK : Hid True := trivial
  go_upto_region 3 with (go_at_call 21; first | (clear MK; (with_reducible refine (draw20_x CU.out).mono ?_); rintro e w3 ⟨m1, m2, m3, m4, rfl, hc, hk⟩; have CU : Hid (Cu w3 c a len cap) := hc; have B0 : Hid (Below w.heap.size w w3) := Below.keep B0.out hk (by omega); have R0 : Hid (R4 w3 w.heap.size 0 0 0 0) := R0.out.keep hk (by omega); have R1 : Hid (R4 w3 (w.heap.size + 1) 0 0 0 0) := R1.out.keep hk (by omega); clear hc hk) | ((with_reducible refine (draw20_x CU.out).mono ?_); rintro e w3 ⟨n1, n2, n3, n4, rfl, hc, hk⟩; have CU : Hid (Cu w3 c a len cap) := hc; have B0 : Hid (Below w.heap.size w w3) := Below.keep B0.out hk (by omega); have R0 : Hid (R4 w3 w.heap.size 0 0 0 0) := R0.out.keep hk (by omega); have R1 : Hid (R4 w3 (w.heap.size + 1) 0 0 0 0) := R1.out.keep hk (by omega); clear hc hk))
  have hG : w.heap.size + 1 < w3.heap.size := World.block_lt_of_cell? _ _ R1.out.c0
  have hC : c < w3.heap.size := CU.out.lt
  have RA : Hid (R4 ((w3.alloc (.cells #[.int .i64 m1, .int .i64 m2, .int .i64 m3, .int .i64 m4] 25)).alloc (.cells #[.int .i64 n1, .int .i64 n2, .int .i64 n3, .int .i64 n4] 25)) w3.heap.size m1 m2 m3 m4) := (R4.new w3 25 m1 m2 m3 m4).call (below_one _ _)
  have RB : Hid (R4 ((w3.alloc (.cells #[.int .i64 m1, .int .i64 m2, .int .i64 m3, .int .i64 m4] 25)).alloc (.cells #[.int .i64 n1, .int .i64 n2, .int .i64 n3, .int .i64 n4] 25)) (w3.heap.size + 1) n1 n2 n3 n4) := by have h := R4.new (w3.alloc (.cells #[.int .i64 m1, .int .i64 m2, .int .i64 m3, .int .i64 m4] 25)) 25 n1 n2 n3 n4; simp only [World.heap_size_alloc] at h; exact h
  have CU : Hid (Cu ((w3.alloc (.cells #[.int .i64 m1, .int .i64 m2, .int .i64 m3, .int .i64 m4] 25)).alloc (.cells #[.int .i64 n1, .int .i64 n2, .int .i64 n3, .int .i64 n4] 25)) c a len cap) := (CU.out.call (below_one _ _)).call (below_one _ _)
  have R0 : Hid (R4 ((w3.alloc (.cells #[.int .i64 m1, .int .i64 m2, .int .i64 m3, .int .i64 m4] 25)).alloc (.cells #[.int .i64 n1, .int .i64 n2, .int .i64 n3, .int .i64 n4] 25)) w.heap.size 0 0 0 0) := (R0.out.call (below_one _ _)).call (below_one _ _)
  have R1 : Hid (R4 ((w3.alloc (.cells #[.int .i64 m1, .int .i64 m2, .int .i64 m3, .int .i64 m4] 25)).alloc (.cells #[.int .i64 n1, .int .i64 n2, .int .i64 n3, .int .i64 n4] 25)) (w.heap.size + 1) 0 0 0 0) := (R1.out.call (below_one _ _)).call (below_one _ _)
  have B0 : Hid (Below w.heap.size w ((w3.alloc (.cells #[.int .i64 m1, .int .i64 m2, .int .i64 m3, .int .i64 m4] 25)).alloc (.cells #[.int .i64 n1, .int .i64 n2, .int .i64 n3, .int .i64 n4] 25))) := bstep (bstep B0.out (below_one _ _)) (below_one _ _)
  generalize w3.heap.size = G at hG hC RA RB ⊢
  generalize (w3.alloc (.cells #[.int .i64 m1, .int .i64 m2, .int .i64 m3, .int .i64 m4] 25)).alloc (.cells #[.int .i64 n1, .int .i64 n2, .int .i64 n3, .int .i64 n4] 25) = w4 at RA RB CU R0 R1 B0 ⊢
  go_upto_region 6 with (go_at_call 22; (with_reducible refine (once_x CU.out _).mono ?_); rintro e w5 ⟨x, rfl, hc, hk⟩; have B0 : Hid (Below w.heap.size w w5) := Below.keep B0.out hk (by omega); have R0 : Hid (R4 w5 w.heap.size 0 0 0 0) := R0.out.keep hk (by omega); have R1 : Hid (R4 w5 (w.heap.size + 1) 0 0 0 0) := R1.out.keep hk (by omega); have RA : Hid (R4 w5 G m1 m2 m3 m4) := RA.out.keep hk (by omega); have RB : Hid (R4 w5 (G + 1) n1 n2 n3 n4) := RB.out.keep hk (by omega); obtain ⟨x0, x1, x2, x3, _⟩ := RA.out; have g2 := RB.out.fz 2; have g3 := RB.out.fz 3; have g4 := RB.out.c2; have g5 := RB.out.c3; clear hc hk)
  · clear x0 x1 x2 x3 g2 g3 g4 g5
    have RB : Hid (R4 ((w5.setCell ⟨G + 1, 2, none⟩ (.int .i64 m3)).setCell ⟨G + 1, 3, none⟩ (.int .i64 m4)) (G + 1) n1 n2 m3 m4) := (RB.out.put2 _).put3 _
    have RA : Hid (R4 ((w5.setCell ⟨G + 1, 2, none⟩ (.int .i64 m3)).setCell ⟨G + 1, 3, none⟩ (.int .i64 m4)) G m1 m2 m3 m4) := (RA.out.off (by omega) _ _).off (by omega) _ _
    have R0 : Hid (R4 ((w5.setCell ⟨G + 1, 2, none⟩ (.int .i64 m3)).setCell ⟨G + 1, 3, none⟩ (.int .i64 m4)) w.heap.size 0 0 0 0) := (R0.out.off (by omega) _ _).off (by omega) _ _
    have R1 : Hid (R4 ((w5.setCell ⟨G + 1, 2, none⟩ (.int .i64 m3)).setCell ⟨G + 1, 3, none⟩ (.int .i64 m4)) (w.heap.size + 1) 0 0 0 0) := (R1.out.off (by omega) _ _).off (by omega) _ _
    have B0 : Hid (Below w.heap.size w ((w5.setCell ⟨G + 1, 2, none⟩ (.int .i64 m3)).setCell ⟨G + 1, 3, none⟩ (.int .i64 m4))) := (B0.out.setCell (by simp <;> omega) _).setCell (by simp <;> omega) _
    generalize (w5.setCell ⟨G + 1, 2, none⟩ (.int .i64 m3)).setCell ⟨G + 1, 3, none⟩ (.int .i64 m4) = w5 at B0 RA RB R0 R1 ⊢
    refine wp_region_any (by kernel_rfl) ?_
    change wpAny _ _ _ _ _ _ _ (World.drew _)
    have RA : Hid (R4 w5.drew G m1 m2 m3 m4) := RA.out.drew
    have RB : Hid (R4 w5.drew (G + 1) n1 n2 m3 m4) := RB.out.drew
    have R0 : Hid (R4 w5.drew w.heap.size 0 0 0 0) := R0.out.drew
    have R1 : Hid (R4 w5.drew (w.heap.size + 1) 0 0 0 0) := R1.out.drew
    have B0 : Hid (Below w.heap.size w w5.drew) := B0.out.drew
    generalize w5.drew = w5 at B0 RA RB R0 R1 ⊢
    refine wpI_any (I := fun X => R4 X G m1 m2 m3 m4 ∧ R4 X (G + 1) n1 n2 m3 m4) _ _ _ _ ?_
    refine wpI_take (i := 0) (v := ?_) rfl (by kernel_rfl) (by kernel_rfl) (by kernel_rfl) (fun _ _ _ h => h) ⟨by rfl, ?_⟩ ?_
    rotate_left
    · intro X hI; obtain ⟨c0, c1, c2, c3, _⟩ := hI.1; go_simp; with_reducible rfl
    refine wpI_take (i := 1) (v := ?_) rfl (by kernel_rfl) (by kernel_rfl) (by kernel_rfl) (fun _ _ _ h => h) ⟨by rfl, ?_⟩ ?_
    rotate_left
    · intro X hI; obtain ⟨c0, c1, c2, c3, _⟩ := hI.2; go_simp; with_reducible rfl
    refine wpI_only (i := 2) rfl (by kernel_rfl) ⟨RA.out, RB.out⟩ (by rfl) ?_
    intro K hK
    obtain ⟨z0, z1, z2, z3, zf⟩ := R0.out
    have f0 := zf 0
    have f1 := zf 1
    have f2 := zf 2
    have f3 := zf 3
    go_simp
    refine hK _ _ ?_
    clear f0 f1 f2 f3 z0 z1 z2 z3 zf
    have RA : Hid (R4 ((((w5.setCell ⟨w.heap.size, 0, none⟩ (.int .i64 m1)).setCell ⟨w.heap.size, 1, none⟩ (.int .i64 m2)).setCell ⟨w.heap.size, 2, none⟩ (.int .i64 m3)).setCell ⟨w.heap.size, 3, none⟩ (.int .i64 m4)) G m1 m2 m3 m4) := (((RA.out.off (by omega) _ _).off (by omega) _ _).off (by omega) _ _).off (by omega) _ _
    have RB : Hid (R4 ((((w5.setCell ⟨w.heap.size, 0, none⟩ (.int .i64 m1)).setCell ⟨w.heap.size, 1, none⟩ (.int .i64 m2)).setCell ⟨w.heap.size, 2, none⟩ (.int .i64 m3)).setCell ⟨w.heap.size, 3, none⟩ (.int .i64 m4)) (G + 1) n1 n2 m3 m4) := (((RB.out.off (by omega) _ _).off (by omega) _ _).off (by omega) _ _).off (by omega) _ _
    have R0 : Hid (R4 ((((w5.setCell ⟨w.heap.size, 0, none⟩ (.int .i64 m1)).setCell ⟨w.heap.size, 1, none⟩ (.int .i64 m2)).setCell ⟨w.heap.size, 2, none⟩ (.int .i64 m3)).setCell ⟨w.heap.size, 3, none⟩ (.int .i64 m4)) w.heap.size m1 m2 m3 m4) := (((R0.out.put0 _).put1 _).put2 _).put3 _
    have R1 : Hid (R4 ((((w5.setCell ⟨w.heap.size, 0, none⟩ (.int .i64 m1)).setCell ⟨w.heap.size, 1, none⟩ (.int .i64 m2)).setCell ⟨w.heap.size, 2, none⟩ (.int .i64 m3)).setCell ⟨w.heap.size, 3, none⟩ (.int .i64 m4)) (w.heap.size + 1) 0 0 0 0) := (((R1.out.off (by omega) _ _).off (by omega) _ _).off (by omega) _ _).off (by omega) _ _
    have B0 : Hid (Below w.heap.size w ((((w5.setCell ⟨w.heap.size, 0, none⟩ (.int .i64 m1)).setCell ⟨w.heap.size, 1, none⟩ (.int .i64 m2)).setCell ⟨w.heap.size, 2, none⟩ (.int .i64 m3)).setCell ⟨w.heap.size, 3, none⟩ (.int .i64 m4))) := (((B0.out.setCell (by simp <;> omega) _).setCell (by simp <;> omega) _).setCell (by simp <;> omega) _).setCell (by simp <;> omega) _
    generalize (((w5.setCell ⟨w.heap.size, 0, none⟩ (.int .i64 m1)).setCell ⟨w.heap.size, 1, none⟩ (.int .i64 m2)).setCell ⟨w.heap.size, 2, none⟩ (.int .i64 m3)).setCell ⟨w.heap.size, 3, none⟩ (.int .i64 m4) = w5 at B0 RA RB R0 R1 ⊢
    refine wpI_only (i := 3) rfl (by kernel_rfl) ⟨RA.out, RB.out⟩ (by rfl) ?_
    intro K hK
    obtain ⟨z0, z1, z2, z3, zf⟩ := R1.out
    have f0 := zf 0
    have f1 := zf 1
    have f2 := zf 2
    have f3 := zf 3
    go_simp
    refine hK _ _ ?_
    clear f0 f1 f2 f3 z0 z1 z2 z3 zf
    have RA : Hid (R4 ((((w5.setCell ⟨w.heap.size + 1, 0, none⟩ (.int .i64 n1)).setCell ⟨w.heap.size + 1, 1, none⟩ (.int .i64 n2)).setCell ⟨w.heap.size + 1, 2, none⟩ (.int .i64 m3)).setCell ⟨w.heap.size + 1, 3, none⟩ (.int .i64 m4)) G m1 m2 m3 m4) := (((RA.out.off (by omega) _ _).off (by omega) _ _).off (by omega) _ _).off (by omega) _ _
    have RB : Hid (R4 ((((w5.setCell ⟨w.heap.size + 1, 0, none⟩ (.int .i64 n1)).setCell ⟨w.heap.size + 1, 1, none⟩ (.int .i64 n2)).setCell ⟨w.heap.size + 1, 2, none⟩ (.int .i64 m3)).setCell ⟨w.heap.size + 1, 3, none⟩ (.int .i64 m4)) (G + 1) n1 n2 m3 m4) := (((RB.out.off (by omega) _ _).off (by omega) _ _).off (by omega) _ _).off (by omega) _ _
    have R0 : Hid (R4 ((((w5.setCell ⟨w.heap.size + 1, 0, none⟩ (.int .i64 n1)).setCell ⟨w.heap.size + 1, 1, none⟩ (.int .i64 n2)).setCell ⟨w.heap.size + 1, 2, none⟩ (.int .i64 m3)).setCell ⟨w.heap.size + 1, 3, none⟩ (.int .i64 m4)) w.heap.size m1 m2 m3 m4) := (((R0.out.off (by omega) _ _).off (by omega) _ _).off (by omega) _ _).off (by omega) _ _
    have R1 : Hid (R4 ((((w5.setCell ⟨w.heap.size + 1, 0, none⟩ (.int .i64 n1)).setCell ⟨w.heap.size + 1, 1, none⟩ (.int .i64 n2)).setCell ⟨w.heap.size + 1, 2, none⟩ (.int .i64 m3)).setCell ⟨w.heap.size + 1, 3, none⟩ (.int .i64 m4)) (w.heap.size + 1) n1 n2 m3 m4) := (((R1.out.put0 _).put1 _).put2 _).put3 _
    have B0 : Hid (Below w.heap.size w ((((w5.setCell ⟨w.heap.size + 1, 0, none⟩ (.int .i64 n1)).setCell ⟨w.heap.size + 1, 1, none⟩ (.int .i64 n2)).setCell ⟨w.heap.size + 1, 2, none⟩ (.int .i64 m3)).setCell ⟨w.heap.size + 1, 3, none⟩ (.int .i64 m4))) := (((B0.out.setCell (by simp <;> omega) _).setCell (by simp <;> omega) _).setCell (by simp <;> omega) _).setCell (by simp <;> omega) _
    generalize (((w5.setCell ⟨w.heap.size + 1, 0, none⟩ (.int .i64 n1)).setCell ⟨w.heap.size + 1, 1, none⟩ (.int .i64 n2)).setCell ⟨w.heap.size + 1, 2, none⟩ (.int .i64 m3)).setCell ⟨w.heap.size + 1, 3, none⟩ (.int .i64 m4) = w5 at B0 RA RB R0 R1 ⊢
    refine wpI_done ⟨RA.out, RB.out⟩ (by kernel_rfl) ?_ _
    go_wp2
    obtain ⟨k0, k1, k2, k3, _⟩ := R0.out
    obtain ⟨l0, l1, l2, l3, _⟩ := R1.out
    refine bodyPost_ret (v := .tuple #[.agg #[.int .i64 m1, .int .i64 m2, .int .i64 m3, .int .i64 m4], .agg #[.int .i64 n1, .int .i64 n2, .int .i64 m3, .int .i64 m4]]) (by simp [results, Try.results9, go_sem, k0, k1, k2, k3, l0, l1, l2, l3]) rfl ?_
    exact ⟨_, _, _, _, _, _, _, _, rfl, B0.out⟩
  · clear x0 x1 x2 x3 g2 g3 g4 g5
    refine wp_region_any (by kernel_rfl) ?_
    change wpAny _ _ _ _ _ _ _ (World.drew _)
    have RA : Hid (R4 w5.drew G m1 m2 m3 m4) := RA.out.drew
    have RB : Hid (R4 w5.drew (G + 1) n1 n2 n3 n4) := RB.out.drew
    have R0 : Hid (R4 w5.drew w.heap.size 0 0 0 0) := R0.out.drew
    have R1 : Hid (R4 w5.drew (w.heap.size + 1) 0 0 0 0) := R1.out.drew
    have B0 : Hid (Below w.heap.size w w5.drew) := B0.out.drew
    generalize w5.drew = w5 at B0 RA RB R0 R1 ⊢
    refine wpI_any (I := fun X => R4 X G m1 m2 m3 m4 ∧ R4 X (G + 1) n1 n2 n3 n4) _ _ _ _ ?_
    refine wpI_take (i := 0) (v := ?_) rfl (by kernel_rfl) (by kernel_rfl) (by kernel_rfl) (fun _ _ _ h => h) ⟨by rfl, ?_⟩ ?_
    rotate_left
    · intro X hI; obtain ⟨c0, c1, c2, c3, _⟩ := hI.1; go_simp; with_reducible rfl
    refine wpI_take (i := 1) (v := ?_) rfl (by kernel_rfl) (by kernel_rfl) (by kernel_rfl) (fun _ _ _ h => h) ⟨by rfl, ?_⟩ ?_
    rotate_left
    · intro X hI; obtain ⟨c0, c1, c2, c3, _⟩ := hI.2; go_simp; with_reducible rfl
    refine wpI_only (i := 2) rfl (by kernel_rfl) ⟨RA.out, RB.out⟩ (by rfl) ?_
    intro K hK
    obtain ⟨z0, z1, z2, z3, zf⟩ := R0.out
    have f0 := zf 0
    have f1 := zf 1
    have f2 := zf 2
    have f3 := zf 3
    go_simp
    refine hK _ _ ?_
    clear f0 f1 f2 f3 z0 z1 z2 z3 zf
    have RA : Hid (R4 ((((w5.setCell ⟨w.heap.size, 0, none⟩ (.int .i64 m1)).setCell ⟨w.heap.size, 1, none⟩ (.int .i64 m2)).setCell ⟨w.heap.size, 2, none⟩ (.int .i64 m3)).setCell ⟨w.heap.size, 3, none⟩ (.int .i64 m4)) G m1 m2 m3 m4) := (((RA.out.off (by omega) _ _).off (by omega) _ _).off (by omega) _ _).off (by omega) _ _
    have RB : Hid (R4 ((((w5.setCell ⟨w.heap.size, 0, none⟩ (.int .i64 m1)).setCell ⟨w.heap.size, 1, none⟩ (.int .i64 m2)).setCell ⟨w.heap.size, 2, none⟩ (.int .i64 m3)).setCell ⟨w.heap.size, 3, none⟩ (.int .i64 m4)) (G + 1) n1 n2 n3 n4) := (((RB.out.off (by omega) _ _).off (by omega) _ _).off (by omega) _ _).off (by omega) _ _
    have R0 : Hid (R4 ((((w5.setCell ⟨w.heap.size, 0, none⟩ (.int .i64 m1)).setCell ⟨w.heap.size, 1, none⟩ (.int .i64 m2)).setCell ⟨w.heap.size, 2, none⟩ (.int .i64 m3)).setCell ⟨w.heap.size, 3, none⟩ (.int .i64 m4)) w.heap.size m1 m2 m3 m4) := (((R0.out.put0 _).put1 _).put2 _).put3 _
    have R1 : Hid (R4 ((((w5.setCell ⟨w.heap.size, 0, none⟩ (.int .i64 m1)).setCell ⟨w.heap.size, 1, none⟩ (.int .i64 m2)).setCell ⟨w.heap.size, 2, none⟩ (.int .i64 m3)).setCell ⟨w.heap.size, 3, none⟩ (.int .i64 m4)) (w.heap.size + 1) 0 0 0 0) := (((R1.out.off (by omega) _ _).off (by omega) _ _).off (by omega) _ _).off (by omega) _ _
    have B0 : Hid (Below w.heap.size w ((((w5.setCell ⟨w.heap.size, 0, none⟩ (.int .i64 m1)).setCell ⟨w.heap.size, 1, none⟩ (.int .i64 m2)).setCell ⟨w.heap.size, 2, none⟩ (.int .i64 m3)).setCell ⟨w.heap.size, 3, none⟩ (.int .i64 m4))) := (((B0.out.setCell (by simp <;> omega) _).setCell (by simp <;> omega) _).setCell (by simp <;> omega) _).setCell (by simp <;> omega) _
    generalize (((w5.setCell ⟨w.heap.size, 0, none⟩ (.int .i64 m1)).setCell ⟨w.heap.size, 1, none⟩ (.int .i64 m2)).setCell ⟨w.heap.size, 2, none⟩ (.int .i64 m3)).setCell ⟨w.heap.size, 3, none⟩ (.int .i64 m4) = w5 at B0 RA RB R0 R1 ⊢
    refine wpI_only (i := 3) rfl (by kernel_rfl) ⟨RA.out, RB.out⟩ (by rfl) ?_
    intro K hK
    obtain ⟨z0, z1, z2, z3, zf⟩ := R1.out
    have f0 := zf 0
    have f1 := zf 1
    have f2 := zf 2
    have f3 := zf 3
    go_simp
    refine hK _ _ ?_
    clear f0 f1 f2 f3 z0 z1 z2 z3 zf
    have RA : Hid (R4 ((((w5.setCell ⟨w.heap.size + 1, 0, none⟩ (.int .i64 n1)).setCell ⟨w.heap.size + 1, 1, none⟩ (.int .i64 n2)).setCell ⟨w.heap.size + 1, 2, none⟩ (.int .i64 n3)).setCell ⟨w.heap.size + 1, 3, none⟩ (.int .i64 n4)) G m1 m2 m3 m4) := (((RA.out.off (by omega) _ _).off (by omega) _ _).off (by omega) _ _).off (by omega) _ _
    have RB : Hid (R4 ((((w5.setCell ⟨w.heap.size + 1, 0, none⟩ (.int .i64 n1)).setCell ⟨w.heap.size + 1, 1, none⟩ (.int .i64 n2)).setCell ⟨w.heap.size + 1, 2, none⟩ (.int .i64 n3)).setCell ⟨w.heap.size + 1, 3, none⟩ (.int .i64 n4)) (G + 1) n1 n2 n3 n4) := (((RB.out.off (by omega) _ _).off (by omega) _ _).off (by omega) _ _).off (by omega) _ _
    have R0 : Hid (R4 ((((w5.setCell ⟨w.heap.size + 1, 0, none⟩ (.int .i64 n1)).setCell ⟨w.heap.size + 1, 1, none⟩ (.int .i64 n2)).setCell ⟨w.heap.size + 1, 2, none⟩ (.int .i64 n3)).setCell ⟨w.heap.size + 1, 3, none⟩ (.int .i64 n4)) w.heap.size m1 m2 m3 m4) := (((R0.out.off (by omega) _ _).off (by omega) _ _).off (by omega) _ _).off (by omega) _ _
    have R1 : Hid (R4 ((((w5.setCell ⟨w.heap.size + 1, 0, none⟩ (.int .i64 n1)).setCell ⟨w.heap.size + 1, 1, none⟩ (.int .i64 n2)).setCell ⟨w.heap.size + 1, 2, none⟩ (.int .i64 n3)).setCell ⟨w.heap.size + 1, 3, none⟩ (.int .i64 n4)) (w.heap.size + 1) n1 n2 n3 n4) := (((R1.out.put0 _).put1 _).put2 _).put3 _
    have B0 : Hid (Below w.heap.size w ((((w5.setCell ⟨w.heap.size + 1, 0, none⟩ (.int .i64 n1)).setCell ⟨w.heap.size + 1, 1, none⟩ (.int .i64 n2)).setCell ⟨w.heap.size + 1, 2, none⟩ (.int .i64 n3)).setCell ⟨w.heap.size + 1, 3, none⟩ (.int .i64 n4))) := (((B0.out.setCell (by simp <;> omega) _).setCell (by simp <;> omega) _).setCell (by simp <;> omega) _).setCell (by simp <;> omega) _
    generalize (((w5.setCell ⟨w.heap.size + 1, 0, none⟩ (.int .i64 n1)).setCell ⟨w.heap.size + 1, 1, none⟩ (.int .i64 n2)).setCell ⟨w.heap.size + 1, 2, none⟩ (.int .i64 n3)).setCell ⟨w.heap.size + 1, 3, none⟩ (.int .i64 n4) = w5 at B0 RA RB R0 R1 ⊢
    refine wpI_done ⟨RA.out, RB.out⟩ (by kernel_rfl) ?_ _
    go_wp2
    obtain ⟨k0, k1, k2, k3, _⟩ := R0.out
    obtain ⟨l0, l1, l2, l3, _⟩ := R1.out
    refine bodyPost_ret (v := .tuple #[.agg #[.int .i64 m1, .int .i64 m2, .int .i64 m3, .int .i64 m4], .agg #[.int .i64 n1, .int .i64 n2, .int .i64 n3, .int .i64 n4]]) (by simp [results, Try.results9, go_sem, k0, k1, k2, k3, l0, l1, l2, l3]) rfl ?_
    exact ⟨_, _, _, _, _, _, _, _, rfl, B0.out⟩

end Go.Proofs.Ytonjgielpcofeaa
