/- A coder: the next state. -/
import Derived.Test.YtgkcofjhajjjgaaCX
namespace Go.Proofs.Ytgkcofjhajjjgaa
open Go.RowKit

set_option maxHeartbeats 2000000 in
theorem next_1 {a b : Int} {c l x : Nat} (hc : c ≤ 200) (hl : l ≤ 64) (hx : x ≤ 1) (w : World) : Calls Try.prog 35 #[cdv 1 a b, stv (c : Int) (l : Int), .int .i64 (x : Int)] w fun e w' => e = .returned (stv ((c + 1 : Nat) : Int) (((2 * l + x) % 2 : Nat) : Int)) ∧ Below w.heap.size w w' := by
  have i1 := reg_any (c := (c : Int)) (l := (l : Int)) (x := (x : Int)) (by omega) (by omega)
  have e1 : (2 * (l : Int) + (x : Int)).tmod 2 = (((2 * l + x) % 2 : Nat) : Int) := by rw [Int.tmod_eq_emod_of_nonneg (by omega)]; omega
  have e2 : (2 * (l : Int) + (x : Int)) % 2 = (((2 * l + x) % 2 : Nat) : Int) := by omega
  have e3 : (c : Int) + 1 = ((c + 1 : Nat) : Int) := by omega
  obtain ⟨C, hC⟩ : ∃ C : Nat, C = c + 1 := ⟨_, rfl⟩
  obtain ⟨R, hR⟩ : ∃ R : Nat, R = (2 * l + x) % 2 := ⟨_, rfl⟩
  rw [← hC] at e3
  rw [← hR] at e1 e2
  rw [← hC, ← hR]
  clear hC hR
  go_enter Try.func35, Try.ntmps35
  go_upto_region 1 with (fail)
  have hW : Below w.heap.size w (((w.alloc (.cells #[.int .i64 1, .int .i64 a, .int .i64 b] 48)).alloc (.cells #[.int .i64 (c : Int), .int .i64 (l : Int)] 52)).alloc (.cells #[.int .i64 0, .int .i64 0] 52)) := bstep (bstep (below_one _ _) (below_one _ _)) (below_one _ _)
  have f0 := ((Cdm.new w 1 a b 48).below (below_one _ (.cells #[.int .i64 (c : Int), .int .i64 (l : Int)] 52))).below (below_one _ (.cells #[.int .i64 0, .int .i64 0] 52))
  have f1 := (Stm.new (w.alloc (.cells #[.int .i64 1, .int .i64 a, .int .i64 b] 48)) (c : Int) (l : Int) 52).below (below_one _ (.cells #[.int .i64 0, .int .i64 0] 52))
  have f2 := Stm.new ((w.alloc (.cells #[.int .i64 1, .int .i64 a, .int .i64 b] 48)).alloc (.cells #[.int .i64 (c : Int), .int .i64 (l : Int)] 52)) 0 0 52
  simp only [size_one] at f1 f2
  have hs : w.heap.size + 2 ≤ (((w.alloc (.cells #[.int .i64 1, .int .i64 a, .int .i64 b] 48)).alloc (.cells #[.int .i64 (c : Int), .int .i64 (l : Int)] 52)).alloc (.cells #[.int .i64 0, .int .i64 0] 52)).heap.size := by simp only [size_one]; omega
  generalize (((w.alloc (.cells #[.int .i64 1, .int .i64 a, .int .i64 b] 48)).alloc (.cells #[.int .i64 (c : Int), .int .i64 (l : Int)] 52)).alloc (.cells #[.int .i64 0, .int .i64 0] 52)) = W at *
  have l0 : Below (w.heap.size + 2) W W.drew := (Below.refl _ _).drew
  have g2 := f2.below (Below.refl _ W).drew
  refine wp_region_any (by kernel_rfl) ?_
  change wpAny _ _ _ _ _ _ _ (World.drew _)
  refine wpI_any (I := fun X => Below (w.heap.size + 2) W X) _ _ _ _ ?_
  refine wpI_take (i := 0) (v := ?_) rfl (by kernel_rfl) (by kernel_rfl) (by kernel_rfl) (fun _ _ _ h => h) ⟨by rfl, ?_⟩ ?_
  rotate_left
  · intro X hI; go_simp; try go_bits
    try rw [if_pos (by omega)]
    try with_reducible rfl
  refine wpI_take (i := 1) (v := ?_) rfl (by kernel_rfl) (by kernel_rfl) (by kernel_rfl) (fun _ _ _ h => h) ⟨by rfl, ?_⟩ ?_
  rotate_left
  · intro X hI; obtain ⟨c0, c1, z0, z1⟩ := f1.at hI (by omega); go_simp; try go_bits
    try rw [if_pos (by omega)]
    try with_reducible rfl
  refine wpI_take (i := 2) (v := ?_) rfl (by kernel_rfl) (by kernel_rfl) (by kernel_rfl) (fun _ _ _ h => h) ⟨by rfl, ?_⟩ ?_
  rotate_left
  · intro X hI; go_simp; try go_bits
    try rw [if_pos (by omega)]
    try with_reducible rfl
  refine wpI_take (i := 3) (v := ?_) rfl (by kernel_rfl) (by kernel_rfl) (by kernel_rfl) (fun _ _ _ h => h) ⟨by rfl, ?_⟩ ?_
  rotate_left
  · intro X hI; obtain ⟨c0, c1, z0, z1⟩ := f1.at hI (by omega); go_simp; try go_bits
    try rw [if_pos (by omega)]
    try with_reducible rfl
  refine wpI_take (i := 4) (v := ?_) rfl (by kernel_rfl) (by kernel_rfl) (by kernel_rfl) (fun _ _ _ h => h) ⟨by rfl, ?_⟩ ?_
  rotate_left
  · intro X hI; go_simp; try go_bits
    try rw [if_pos (by omega)]
    try with_reducible rfl
  refine wpI_take (i := 6) (v := ?_) rfl (by kernel_rfl) (by kernel_rfl) (by kernel_rfl) (fun _ _ _ h => h) ⟨by rfl, ?_⟩ ?_
  rotate_left
  · intro X hI; go_simp; try go_bits
    try rw [if_pos (by omega)]
    try with_reducible rfl
  refine wpI_take (i := 7) (v := ?_) rfl (by kernel_rfl) (by kernel_rfl) (by kernel_rfl) (fun _ _ _ h => h) ⟨by rfl, ?_⟩ ?_
  rotate_left
  · intro X hI; obtain ⟨c0, c1, c2⟩ := f0.at hI (by omega); go_simp; try go_bits
    try rw [if_pos (by omega)]
    try with_reducible rfl
  refine wpI_take (i := 8) (v := ?_) rfl (by kernel_rfl) (by kernel_rfl) (by kernel_rfl) (fun _ _ _ h => h) ⟨by rfl, ?_⟩ ?_
  rotate_left
  · intro X hI; go_simp; try go_bits
    try rw [if_pos (by omega)]
    try with_reducible rfl
  refine wpI_only (i := 5) rfl (by kernel_rfl) l0 (by rfl) ?_
  intro K hK
  go_simp
  go_wp2_with (go_at_call 34; (with_reducible refine (i1 _).mono ?_); rintro e w3 ⟨rfl, hb⟩; have l1 := bgo l0 hs hb; have g3 := g2.below hb; clear hb)
  refine wpI_take (i := 9) (v := ?_) rfl (by kernel_rfl) (by kernel_rfl) (by kernel_rfl) (fun _ _ _ h => h) ⟨by rfl, ?_⟩ ?_
  rotate_left
  · intro X hI; go_simp; try go_bits
    try rw [if_pos (by omega)]
    try with_reducible rfl
  refine wpI_take (i := 10) (v := ?_) rfl (by kernel_rfl) (by kernel_rfl) (by kernel_rfl) (fun _ _ _ h => h) ⟨by rfl, ?_⟩ ?_
  rotate_left
  · intro X hI; go_simp; try go_bits
    try rw [if_pos (by omega)]
    try with_reducible rfl
  refine wpI_only (i := 11) rfl (by kernel_rfl) l1 (by rfl) ?_
  intro K hK
  obtain ⟨c0, c1, z0, z1⟩ := g3
  have l5 := (l1.setCell (p := ⟨w.heap.size + 1 + 1, 0, none⟩) (Nat.le_refl _) (.int .i64 (C : Int))).setCell (p := ⟨w.heap.size + 1 + 1, 1, none⟩) (Nat.le_refl _) (.int .i64 (R : Int))
  go_simp
  refine hK _ _ ?_
  clear hK K
  refine wpI_done l5 (by kernel_rfl) ?_ _
  go_wp2
  refine bodyPost_ret (v := stv (C : Int) (R : Int)) (by simp [results, Try.results35, go_sem, c0, c1]) rfl ⟨rfl, hW.trans (l5.mono (by omega))⟩

set_option maxHeartbeats 2000000 in
theorem next_2 {a b : Int} {c l x : Nat} (hc : c ≤ 200) (hl : l ≤ 64) (hx : x ≤ 1) (w : World) : Calls Try.prog 35 #[cdv 2 a b, stv (c : Int) (l : Int), .int .i64 (x : Int)] w fun e w' => e = .returned (stv ((c + 1 : Nat) : Int) (((2 * l + x) % 4 : Nat) : Int)) ∧ Below w.heap.size w w' := by
  have i1 := reg_any (c := (c : Int)) (l := (l : Int)) (x := (x : Int)) (by omega) (by omega)
  have e1 : (2 * (l : Int) + (x : Int)).tmod 4 = (((2 * l + x) % 4 : Nat) : Int) := by rw [Int.tmod_eq_emod_of_nonneg (by omega)]; omega
  have e2 : (2 * (l : Int) + (x : Int)) % 4 = (((2 * l + x) % 4 : Nat) : Int) := by omega
  have e3 : (c : Int) + 1 = ((c + 1 : Nat) : Int) := by omega
  obtain ⟨C, hC⟩ : ∃ C : Nat, C = c + 1 := ⟨_, rfl⟩
  obtain ⟨R, hR⟩ : ∃ R : Nat, R = (2 * l + x) % 4 := ⟨_, rfl⟩
  rw [← hC] at e3
  rw [← hR] at e1 e2
  rw [← hC, ← hR]
  clear hC hR
  go_enter Try.func35, Try.ntmps35
  go_upto_region 1 with (fail)
  have hW : Below w.heap.size w (((w.alloc (.cells #[.int .i64 2, .int .i64 a, .int .i64 b] 48)).alloc (.cells #[.int .i64 (c : Int), .int .i64 (l : Int)] 52)).alloc (.cells #[.int .i64 0, .int .i64 0] 52)) := bstep (bstep (below_one _ _) (below_one _ _)) (below_one _ _)
  have f0 := ((Cdm.new w 2 a b 48).below (below_one _ (.cells #[.int .i64 (c : Int), .int .i64 (l : Int)] 52))).below (below_one _ (.cells #[.int .i64 0, .int .i64 0] 52))
  have f1 := (Stm.new (w.alloc (.cells #[.int .i64 2, .int .i64 a, .int .i64 b] 48)) (c : Int) (l : Int) 52).below (below_one _ (.cells #[.int .i64 0, .int .i64 0] 52))
  have f2 := Stm.new ((w.alloc (.cells #[.int .i64 2, .int .i64 a, .int .i64 b] 48)).alloc (.cells #[.int .i64 (c : Int), .int .i64 (l : Int)] 52)) 0 0 52
  simp only [size_one] at f1 f2
  have hs : w.heap.size + 2 ≤ (((w.alloc (.cells #[.int .i64 2, .int .i64 a, .int .i64 b] 48)).alloc (.cells #[.int .i64 (c : Int), .int .i64 (l : Int)] 52)).alloc (.cells #[.int .i64 0, .int .i64 0] 52)).heap.size := by simp only [size_one]; omega
  generalize (((w.alloc (.cells #[.int .i64 2, .int .i64 a, .int .i64 b] 48)).alloc (.cells #[.int .i64 (c : Int), .int .i64 (l : Int)] 52)).alloc (.cells #[.int .i64 0, .int .i64 0] 52)) = W at *
  have l0 : Below (w.heap.size + 2) W W.drew := (Below.refl _ _).drew
  have g2 := f2.below (Below.refl _ W).drew
  refine wp_region_any (by kernel_rfl) ?_
  change wpAny _ _ _ _ _ _ _ (World.drew _)
  refine wpI_any (I := fun X => Below (w.heap.size + 2) W X) _ _ _ _ ?_
  refine wpI_take (i := 0) (v := ?_) rfl (by kernel_rfl) (by kernel_rfl) (by kernel_rfl) (fun _ _ _ h => h) ⟨by rfl, ?_⟩ ?_
  rotate_left
  · intro X hI; go_simp; try go_bits
    try rw [if_pos (by omega)]
    try with_reducible rfl
  refine wpI_take (i := 1) (v := ?_) rfl (by kernel_rfl) (by kernel_rfl) (by kernel_rfl) (fun _ _ _ h => h) ⟨by rfl, ?_⟩ ?_
  rotate_left
  · intro X hI; obtain ⟨c0, c1, z0, z1⟩ := f1.at hI (by omega); go_simp; try go_bits
    try rw [if_pos (by omega)]
    try with_reducible rfl
  refine wpI_take (i := 2) (v := ?_) rfl (by kernel_rfl) (by kernel_rfl) (by kernel_rfl) (fun _ _ _ h => h) ⟨by rfl, ?_⟩ ?_
  rotate_left
  · intro X hI; go_simp; try go_bits
    try rw [if_pos (by omega)]
    try with_reducible rfl
  refine wpI_take (i := 3) (v := ?_) rfl (by kernel_rfl) (by kernel_rfl) (by kernel_rfl) (fun _ _ _ h => h) ⟨by rfl, ?_⟩ ?_
  rotate_left
  · intro X hI; obtain ⟨c0, c1, z0, z1⟩ := f1.at hI (by omega); go_simp; try go_bits
    try rw [if_pos (by omega)]
    try with_reducible rfl
  refine wpI_take (i := 4) (v := ?_) rfl (by kernel_rfl) (by kernel_rfl) (by kernel_rfl) (fun _ _ _ h => h) ⟨by rfl, ?_⟩ ?_
  rotate_left
  · intro X hI; go_simp; try go_bits
    try rw [if_pos (by omega)]
    try with_reducible rfl
  refine wpI_take (i := 6) (v := ?_) rfl (by kernel_rfl) (by kernel_rfl) (by kernel_rfl) (fun _ _ _ h => h) ⟨by rfl, ?_⟩ ?_
  rotate_left
  · intro X hI; go_simp; try go_bits
    try rw [if_pos (by omega)]
    try with_reducible rfl
  refine wpI_take (i := 7) (v := ?_) rfl (by kernel_rfl) (by kernel_rfl) (by kernel_rfl) (fun _ _ _ h => h) ⟨by rfl, ?_⟩ ?_
  rotate_left
  · intro X hI; obtain ⟨c0, c1, c2⟩ := f0.at hI (by omega); go_simp; try go_bits
    try rw [if_pos (by omega)]
    try with_reducible rfl
  refine wpI_take (i := 8) (v := ?_) rfl (by kernel_rfl) (by kernel_rfl) (by kernel_rfl) (fun _ _ _ h => h) ⟨by rfl, ?_⟩ ?_
  rotate_left
  · intro X hI; go_simp; try go_bits
    try rw [if_pos (by omega)]
    try with_reducible rfl
  refine wpI_only (i := 5) rfl (by kernel_rfl) l0 (by rfl) ?_
  intro K hK
  go_simp
  go_wp2_with (go_at_call 34; (with_reducible refine (i1 _).mono ?_); rintro e w3 ⟨rfl, hb⟩; have l1 := bgo l0 hs hb; have g3 := g2.below hb; clear hb)
  refine wpI_take (i := 9) (v := ?_) rfl (by kernel_rfl) (by kernel_rfl) (by kernel_rfl) (fun _ _ _ h => h) ⟨by rfl, ?_⟩ ?_
  rotate_left
  · intro X hI; go_simp; try go_bits
    try rw [if_pos (by omega)]
    try with_reducible rfl
  refine wpI_take (i := 10) (v := ?_) rfl (by kernel_rfl) (by kernel_rfl) (by kernel_rfl) (fun _ _ _ h => h) ⟨by rfl, ?_⟩ ?_
  rotate_left
  · intro X hI; go_simp; try go_bits
    try rw [if_pos (by omega)]
    try with_reducible rfl
  refine wpI_only (i := 11) rfl (by kernel_rfl) l1 (by rfl) ?_
  intro K hK
  obtain ⟨c0, c1, z0, z1⟩ := g3
  have l5 := (l1.setCell (p := ⟨w.heap.size + 1 + 1, 0, none⟩) (Nat.le_refl _) (.int .i64 (C : Int))).setCell (p := ⟨w.heap.size + 1 + 1, 1, none⟩) (Nat.le_refl _) (.int .i64 (R : Int))
  go_simp
  refine hK _ _ ?_
  clear hK K
  refine wpI_done l5 (by kernel_rfl) ?_ _
  go_wp2
  refine bodyPost_ret (v := stv (C : Int) (R : Int)) (by simp [results, Try.results35, go_sem, c0, c1]) rfl ⟨rfl, hW.trans (l5.mono (by omega))⟩

set_option maxHeartbeats 2000000 in
theorem next_3 {a b : Int} {c l x : Nat} (hc : c ≤ 200) (hl : l ≤ 64) (hx : x ≤ 1) (w : World) : Calls Try.prog 35 #[cdv 3 a b, stv (c : Int) (l : Int), .int .i64 (x : Int)] w fun e w' => e = .returned (stv ((c + 1 : Nat) : Int) (((2 * l + x) % 8 : Nat) : Int)) ∧ Below w.heap.size w w' := by
  have i1 := reg_any (c := (c : Int)) (l := (l : Int)) (x := (x : Int)) (by omega) (by omega)
  have e1 : (2 * (l : Int) + (x : Int)).tmod 8 = (((2 * l + x) % 8 : Nat) : Int) := by rw [Int.tmod_eq_emod_of_nonneg (by omega)]; omega
  have e2 : (2 * (l : Int) + (x : Int)) % 8 = (((2 * l + x) % 8 : Nat) : Int) := by omega
  have e3 : (c : Int) + 1 = ((c + 1 : Nat) : Int) := by omega
  obtain ⟨C, hC⟩ : ∃ C : Nat, C = c + 1 := ⟨_, rfl⟩
  obtain ⟨R, hR⟩ : ∃ R : Nat, R = (2 * l + x) % 8 := ⟨_, rfl⟩
  rw [← hC] at e3
  rw [← hR] at e1 e2
  rw [← hC, ← hR]
  clear hC hR
  go_enter Try.func35, Try.ntmps35
  go_upto_region 1 with (fail)
  have hW : Below w.heap.size w (((w.alloc (.cells #[.int .i64 3, .int .i64 a, .int .i64 b] 48)).alloc (.cells #[.int .i64 (c : Int), .int .i64 (l : Int)] 52)).alloc (.cells #[.int .i64 0, .int .i64 0] 52)) := bstep (bstep (below_one _ _) (below_one _ _)) (below_one _ _)
  have f0 := ((Cdm.new w 3 a b 48).below (below_one _ (.cells #[.int .i64 (c : Int), .int .i64 (l : Int)] 52))).below (below_one _ (.cells #[.int .i64 0, .int .i64 0] 52))
  have f1 := (Stm.new (w.alloc (.cells #[.int .i64 3, .int .i64 a, .int .i64 b] 48)) (c : Int) (l : Int) 52).below (below_one _ (.cells #[.int .i64 0, .int .i64 0] 52))
  have f2 := Stm.new ((w.alloc (.cells #[.int .i64 3, .int .i64 a, .int .i64 b] 48)).alloc (.cells #[.int .i64 (c : Int), .int .i64 (l : Int)] 52)) 0 0 52
  simp only [size_one] at f1 f2
  have hs : w.heap.size + 2 ≤ (((w.alloc (.cells #[.int .i64 3, .int .i64 a, .int .i64 b] 48)).alloc (.cells #[.int .i64 (c : Int), .int .i64 (l : Int)] 52)).alloc (.cells #[.int .i64 0, .int .i64 0] 52)).heap.size := by simp only [size_one]; omega
  generalize (((w.alloc (.cells #[.int .i64 3, .int .i64 a, .int .i64 b] 48)).alloc (.cells #[.int .i64 (c : Int), .int .i64 (l : Int)] 52)).alloc (.cells #[.int .i64 0, .int .i64 0] 52)) = W at *
  have l0 : Below (w.heap.size + 2) W W.drew := (Below.refl _ _).drew
  have g2 := f2.below (Below.refl _ W).drew
  refine wp_region_any (by kernel_rfl) ?_
  change wpAny _ _ _ _ _ _ _ (World.drew _)
  refine wpI_any (I := fun X => Below (w.heap.size + 2) W X) _ _ _ _ ?_
  refine wpI_take (i := 0) (v := ?_) rfl (by kernel_rfl) (by kernel_rfl) (by kernel_rfl) (fun _ _ _ h => h) ⟨by rfl, ?_⟩ ?_
  rotate_left
  · intro X hI; go_simp; try go_bits
    try rw [if_pos (by omega)]
    try with_reducible rfl
  refine wpI_take (i := 1) (v := ?_) rfl (by kernel_rfl) (by kernel_rfl) (by kernel_rfl) (fun _ _ _ h => h) ⟨by rfl, ?_⟩ ?_
  rotate_left
  · intro X hI; obtain ⟨c0, c1, z0, z1⟩ := f1.at hI (by omega); go_simp; try go_bits
    try rw [if_pos (by omega)]
    try with_reducible rfl
  refine wpI_take (i := 2) (v := ?_) rfl (by kernel_rfl) (by kernel_rfl) (by kernel_rfl) (fun _ _ _ h => h) ⟨by rfl, ?_⟩ ?_
  rotate_left
  · intro X hI; go_simp; try go_bits
    try rw [if_pos (by omega)]
    try with_reducible rfl
  refine wpI_take (i := 3) (v := ?_) rfl (by kernel_rfl) (by kernel_rfl) (by kernel_rfl) (fun _ _ _ h => h) ⟨by rfl, ?_⟩ ?_
  rotate_left
  · intro X hI; obtain ⟨c0, c1, z0, z1⟩ := f1.at hI (by omega); go_simp; try go_bits
    try rw [if_pos (by omega)]
    try with_reducible rfl
  refine wpI_take (i := 4) (v := ?_) rfl (by kernel_rfl) (by kernel_rfl) (by kernel_rfl) (fun _ _ _ h => h) ⟨by rfl, ?_⟩ ?_
  rotate_left
  · intro X hI; go_simp; try go_bits
    try rw [if_pos (by omega)]
    try with_reducible rfl
  refine wpI_take (i := 6) (v := ?_) rfl (by kernel_rfl) (by kernel_rfl) (by kernel_rfl) (fun _ _ _ h => h) ⟨by rfl, ?_⟩ ?_
  rotate_left
  · intro X hI; go_simp; try go_bits
    try rw [if_pos (by omega)]
    try with_reducible rfl
  refine wpI_take (i := 7) (v := ?_) rfl (by kernel_rfl) (by kernel_rfl) (by kernel_rfl) (fun _ _ _ h => h) ⟨by rfl, ?_⟩ ?_
  rotate_left
  · intro X hI; obtain ⟨c0, c1, c2⟩ := f0.at hI (by omega); go_simp; try go_bits
    try rw [if_pos (by omega)]
    try with_reducible rfl
  refine wpI_take (i := 8) (v := ?_) rfl (by kernel_rfl) (by kernel_rfl) (by kernel_rfl) (fun _ _ _ h => h) ⟨by rfl, ?_⟩ ?_
  rotate_left
  · intro X hI; go_simp; try go_bits
    try rw [if_pos (by omega)]
    try with_reducible rfl
  refine wpI_only (i := 5) rfl (by kernel_rfl) l0 (by rfl) ?_
  intro K hK
  go_simp
  go_wp2_with (go_at_call 34; (with_reducible refine (i1 _).mono ?_); rintro e w3 ⟨rfl, hb⟩; have l1 := bgo l0 hs hb; have g3 := g2.below hb; clear hb)
  refine wpI_take (i := 9) (v := ?_) rfl (by kernel_rfl) (by kernel_rfl) (by kernel_rfl) (fun _ _ _ h => h) ⟨by rfl, ?_⟩ ?_
  rotate_left
  · intro X hI; go_simp; try go_bits
    try rw [if_pos (by omega)]
    try with_reducible rfl
  refine wpI_take (i := 10) (v := ?_) rfl (by kernel_rfl) (by kernel_rfl) (by kernel_rfl) (fun _ _ _ h => h) ⟨by rfl, ?_⟩ ?_
  rotate_left
  · intro X hI; go_simp; try go_bits
    try rw [if_pos (by omega)]
    try with_reducible rfl
  refine wpI_only (i := 11) rfl (by kernel_rfl) l1 (by rfl) ?_
  intro K hK
  obtain ⟨c0, c1, z0, z1⟩ := g3
  have l5 := (l1.setCell (p := ⟨w.heap.size + 1 + 1, 0, none⟩) (Nat.le_refl _) (.int .i64 (C : Int))).setCell (p := ⟨w.heap.size + 1 + 1, 1, none⟩) (Nat.le_refl _) (.int .i64 (R : Int))
  go_simp
  refine hK _ _ ?_
  clear hK K
  refine wpI_done l5 (by kernel_rfl) ?_ _
  go_wp2
  refine bodyPost_ret (v := stv (C : Int) (R : Int)) (by simp [results, Try.results35, go_sem, c0, c1]) rfl ⟨rfl, hW.trans (l5.mono (by omega))⟩

set_option maxHeartbeats 2000000 in
theorem next_4 {a b : Int} {c l x : Nat} (hc : c ≤ 200) (hl : l ≤ 64) (hx : x ≤ 1) (w : World) : Calls Try.prog 35 #[cdv 4 a b, stv (c : Int) (l : Int), .int .i64 (x : Int)] w fun e w' => e = .returned (stv ((c + 1 : Nat) : Int) (((2 * l + x) % 16 : Nat) : Int)) ∧ Below w.heap.size w w' := by
  have i1 := reg_any (c := (c : Int)) (l := (l : Int)) (x := (x : Int)) (by omega) (by omega)
  have e1 : (2 * (l : Int) + (x : Int)).tmod 16 = (((2 * l + x) % 16 : Nat) : Int) := by rw [Int.tmod_eq_emod_of_nonneg (by omega)]; omega
  have e2 : (2 * (l : Int) + (x : Int)) % 16 = (((2 * l + x) % 16 : Nat) : Int) := by omega
  have e3 : (c : Int) + 1 = ((c + 1 : Nat) : Int) := by omega
  obtain ⟨C, hC⟩ : ∃ C : Nat, C = c + 1 := ⟨_, rfl⟩
  obtain ⟨R, hR⟩ : ∃ R : Nat, R = (2 * l + x) % 16 := ⟨_, rfl⟩
  rw [← hC] at e3
  rw [← hR] at e1 e2
  rw [← hC, ← hR]
  clear hC hR
  go_enter Try.func35, Try.ntmps35
  go_upto_region 1 with (fail)
  have hW : Below w.heap.size w (((w.alloc (.cells #[.int .i64 4, .int .i64 a, .int .i64 b] 48)).alloc (.cells #[.int .i64 (c : Int), .int .i64 (l : Int)] 52)).alloc (.cells #[.int .i64 0, .int .i64 0] 52)) := bstep (bstep (below_one _ _) (below_one _ _)) (below_one _ _)
  have f0 := ((Cdm.new w 4 a b 48).below (below_one _ (.cells #[.int .i64 (c : Int), .int .i64 (l : Int)] 52))).below (below_one _ (.cells #[.int .i64 0, .int .i64 0] 52))
  have f1 := (Stm.new (w.alloc (.cells #[.int .i64 4, .int .i64 a, .int .i64 b] 48)) (c : Int) (l : Int) 52).below (below_one _ (.cells #[.int .i64 0, .int .i64 0] 52))
  have f2 := Stm.new ((w.alloc (.cells #[.int .i64 4, .int .i64 a, .int .i64 b] 48)).alloc (.cells #[.int .i64 (c : Int), .int .i64 (l : Int)] 52)) 0 0 52
  simp only [size_one] at f1 f2
  have hs : w.heap.size + 2 ≤ (((w.alloc (.cells #[.int .i64 4, .int .i64 a, .int .i64 b] 48)).alloc (.cells #[.int .i64 (c : Int), .int .i64 (l : Int)] 52)).alloc (.cells #[.int .i64 0, .int .i64 0] 52)).heap.size := by simp only [size_one]; omega
  generalize (((w.alloc (.cells #[.int .i64 4, .int .i64 a, .int .i64 b] 48)).alloc (.cells #[.int .i64 (c : Int), .int .i64 (l : Int)] 52)).alloc (.cells #[.int .i64 0, .int .i64 0] 52)) = W at *
  have l0 : Below (w.heap.size + 2) W W.drew := (Below.refl _ _).drew
  have g2 := f2.below (Below.refl _ W).drew
  refine wp_region_any (by kernel_rfl) ?_
  change wpAny _ _ _ _ _ _ _ (World.drew _)
  refine wpI_any (I := fun X => Below (w.heap.size + 2) W X) _ _ _ _ ?_
  refine wpI_take (i := 0) (v := ?_) rfl (by kernel_rfl) (by kernel_rfl) (by kernel_rfl) (fun _ _ _ h => h) ⟨by rfl, ?_⟩ ?_
  rotate_left
  · intro X hI; go_simp; try go_bits
    try rw [if_pos (by omega)]
    try with_reducible rfl
  refine wpI_take (i := 1) (v := ?_) rfl (by kernel_rfl) (by kernel_rfl) (by kernel_rfl) (fun _ _ _ h => h) ⟨by rfl, ?_⟩ ?_
  rotate_left
  · intro X hI; obtain ⟨c0, c1, z0, z1⟩ := f1.at hI (by omega); go_simp; try go_bits
    try rw [if_pos (by omega)]
    try with_reducible rfl
  refine wpI_take (i := 2) (v := ?_) rfl (by kernel_rfl) (by kernel_rfl) (by kernel_rfl) (fun _ _ _ h => h) ⟨by rfl, ?_⟩ ?_
  rotate_left
  · intro X hI; go_simp; try go_bits
    try rw [if_pos (by omega)]
    try with_reducible rfl
  refine wpI_take (i := 3) (v := ?_) rfl (by kernel_rfl) (by kernel_rfl) (by kernel_rfl) (fun _ _ _ h => h) ⟨by rfl, ?_⟩ ?_
  rotate_left
  · intro X hI; obtain ⟨c0, c1, z0, z1⟩ := f1.at hI (by omega); go_simp; try go_bits
    try rw [if_pos (by omega)]
    try with_reducible rfl
  refine wpI_take (i := 4) (v := ?_) rfl (by kernel_rfl) (by kernel_rfl) (by kernel_rfl) (fun _ _ _ h => h) ⟨by rfl, ?_⟩ ?_
  rotate_left
  · intro X hI; go_simp; try go_bits
    try rw [if_pos (by omega)]
    try with_reducible rfl
  refine wpI_take (i := 6) (v := ?_) rfl (by kernel_rfl) (by kernel_rfl) (by kernel_rfl) (fun _ _ _ h => h) ⟨by rfl, ?_⟩ ?_
  rotate_left
  · intro X hI; go_simp; try go_bits
    try rw [if_pos (by omega)]
    try with_reducible rfl
  refine wpI_take (i := 7) (v := ?_) rfl (by kernel_rfl) (by kernel_rfl) (by kernel_rfl) (fun _ _ _ h => h) ⟨by rfl, ?_⟩ ?_
  rotate_left
  · intro X hI; obtain ⟨c0, c1, c2⟩ := f0.at hI (by omega); go_simp; try go_bits
    try rw [if_pos (by omega)]
    try with_reducible rfl
  refine wpI_take (i := 8) (v := ?_) rfl (by kernel_rfl) (by kernel_rfl) (by kernel_rfl) (fun _ _ _ h => h) ⟨by rfl, ?_⟩ ?_
  rotate_left
  · intro X hI; go_simp; try go_bits
    try rw [if_pos (by omega)]
    try with_reducible rfl
  refine wpI_only (i := 5) rfl (by kernel_rfl) l0 (by rfl) ?_
  intro K hK
  go_simp
  go_wp2_with (go_at_call 34; (with_reducible refine (i1 _).mono ?_); rintro e w3 ⟨rfl, hb⟩; have l1 := bgo l0 hs hb; have g3 := g2.below hb; clear hb)
  refine wpI_take (i := 9) (v := ?_) rfl (by kernel_rfl) (by kernel_rfl) (by kernel_rfl) (fun _ _ _ h => h) ⟨by rfl, ?_⟩ ?_
  rotate_left
  · intro X hI; go_simp; try go_bits
    try rw [if_pos (by omega)]
    try with_reducible rfl
  refine wpI_take (i := 10) (v := ?_) rfl (by kernel_rfl) (by kernel_rfl) (by kernel_rfl) (fun _ _ _ h => h) ⟨by rfl, ?_⟩ ?_
  rotate_left
  · intro X hI; go_simp; try go_bits
    try rw [if_pos (by omega)]
    try with_reducible rfl
  refine wpI_only (i := 11) rfl (by kernel_rfl) l1 (by rfl) ?_
  intro K hK
  obtain ⟨c0, c1, z0, z1⟩ := g3
  have l5 := (l1.setCell (p := ⟨w.heap.size + 1 + 1, 0, none⟩) (Nat.le_refl _) (.int .i64 (C : Int))).setCell (p := ⟨w.heap.size + 1 + 1, 1, none⟩) (Nat.le_refl _) (.int .i64 (R : Int))
  go_simp
  refine hK _ _ ?_
  clear hK K
  refine wpI_done l5 (by kernel_rfl) ?_ _
  go_wp2
  refine bodyPost_ret (v := stv (C : Int) (R : Int)) (by simp [results, Try.results35, go_sem, c0, c1]) rfl ⟨rfl, hW.trans (l5.mono (by omega))⟩

set_option maxHeartbeats 2000000 in
theorem next_5 {a b : Int} {c l x : Nat} (hc : c ≤ 200) (hl : l ≤ 64) (hx : x ≤ 1) (w : World) : Calls Try.prog 35 #[cdv 5 a b, stv (c : Int) (l : Int), .int .i64 (x : Int)] w fun e w' => e = .returned (stv ((c + 1 : Nat) : Int) (((2 * l + x) % 32 : Nat) : Int)) ∧ Below w.heap.size w w' := by
  have i1 := reg_any (c := (c : Int)) (l := (l : Int)) (x := (x : Int)) (by omega) (by omega)
  have e1 : (2 * (l : Int) + (x : Int)).tmod 32 = (((2 * l + x) % 32 : Nat) : Int) := by rw [Int.tmod_eq_emod_of_nonneg (by omega)]; omega
  have e2 : (2 * (l : Int) + (x : Int)) % 32 = (((2 * l + x) % 32 : Nat) : Int) := by omega
  have e3 : (c : Int) + 1 = ((c + 1 : Nat) : Int) := by omega
  obtain ⟨C, hC⟩ : ∃ C : Nat, C = c + 1 := ⟨_, rfl⟩
  obtain ⟨R, hR⟩ : ∃ R : Nat, R = (2 * l + x) % 32 := ⟨_, rfl⟩
  rw [← hC] at e3
  rw [← hR] at e1 e2
  rw [← hC, ← hR]
  clear hC hR
  go_enter Try.func35, Try.ntmps35
  go_upto_region 1 with (fail)
  have hW : Below w.heap.size w (((w.alloc (.cells #[.int .i64 5, .int .i64 a, .int .i64 b] 48)).alloc (.cells #[.int .i64 (c : Int), .int .i64 (l : Int)] 52)).alloc (.cells #[.int .i64 0, .int .i64 0] 52)) := bstep (bstep (below_one _ _) (below_one _ _)) (below_one _ _)
  have f0 := ((Cdm.new w 5 a b 48).below (below_one _ (.cells #[.int .i64 (c : Int), .int .i64 (l : Int)] 52))).below (below_one _ (.cells #[.int .i64 0, .int .i64 0] 52))
  have f1 := (Stm.new (w.alloc (.cells #[.int .i64 5, .int .i64 a, .int .i64 b] 48)) (c : Int) (l : Int) 52).below (below_one _ (.cells #[.int .i64 0, .int .i64 0] 52))
  have f2 := Stm.new ((w.alloc (.cells #[.int .i64 5, .int .i64 a, .int .i64 b] 48)).alloc (.cells #[.int .i64 (c : Int), .int .i64 (l : Int)] 52)) 0 0 52
  simp only [size_one] at f1 f2
  have hs : w.heap.size + 2 ≤ (((w.alloc (.cells #[.int .i64 5, .int .i64 a, .int .i64 b] 48)).alloc (.cells #[.int .i64 (c : Int), .int .i64 (l : Int)] 52)).alloc (.cells #[.int .i64 0, .int .i64 0] 52)).heap.size := by simp only [size_one]; omega
  generalize (((w.alloc (.cells #[.int .i64 5, .int .i64 a, .int .i64 b] 48)).alloc (.cells #[.int .i64 (c : Int), .int .i64 (l : Int)] 52)).alloc (.cells #[.int .i64 0, .int .i64 0] 52)) = W at *
  have l0 : Below (w.heap.size + 2) W W.drew := (Below.refl _ _).drew
  have g2 := f2.below (Below.refl _ W).drew
  refine wp_region_any (by kernel_rfl) ?_
  change wpAny _ _ _ _ _ _ _ (World.drew _)
  refine wpI_any (I := fun X => Below (w.heap.size + 2) W X) _ _ _ _ ?_
  refine wpI_take (i := 0) (v := ?_) rfl (by kernel_rfl) (by kernel_rfl) (by kernel_rfl) (fun _ _ _ h => h) ⟨by rfl, ?_⟩ ?_
  rotate_left
  · intro X hI; go_simp; try go_bits
    try rw [if_pos (by omega)]
    try with_reducible rfl
  refine wpI_take (i := 1) (v := ?_) rfl (by kernel_rfl) (by kernel_rfl) (by kernel_rfl) (fun _ _ _ h => h) ⟨by rfl, ?_⟩ ?_
  rotate_left
  · intro X hI; obtain ⟨c0, c1, z0, z1⟩ := f1.at hI (by omega); go_simp; try go_bits
    try rw [if_pos (by omega)]
    try with_reducible rfl
  refine wpI_take (i := 2) (v := ?_) rfl (by kernel_rfl) (by kernel_rfl) (by kernel_rfl) (fun _ _ _ h => h) ⟨by rfl, ?_⟩ ?_
  rotate_left
  · intro X hI; go_simp; try go_bits
    try rw [if_pos (by omega)]
    try with_reducible rfl
  refine wpI_take (i := 3) (v := ?_) rfl (by kernel_rfl) (by kernel_rfl) (by kernel_rfl) (fun _ _ _ h => h) ⟨by rfl, ?_⟩ ?_
  rotate_left
  · intro X hI; obtain ⟨c0, c1, z0, z1⟩ := f1.at hI (by omega); go_simp; try go_bits
    try rw [if_pos (by omega)]
    try with_reducible rfl
  refine wpI_take (i := 4) (v := ?_) rfl (by kernel_rfl) (by kernel_rfl) (by kernel_rfl) (fun _ _ _ h => h) ⟨by rfl, ?_⟩ ?_
  rotate_left
  · intro X hI; go_simp; try go_bits
    try rw [if_pos (by omega)]
    try with_reducible rfl
  refine wpI_take (i := 6) (v := ?_) rfl (by kernel_rfl) (by kernel_rfl) (by kernel_rfl) (fun _ _ _ h => h) ⟨by rfl, ?_⟩ ?_
  rotate_left
  · intro X hI; go_simp; try go_bits
    try rw [if_pos (by omega)]
    try with_reducible rfl
  refine wpI_take (i := 7) (v := ?_) rfl (by kernel_rfl) (by kernel_rfl) (by kernel_rfl) (fun _ _ _ h => h) ⟨by rfl, ?_⟩ ?_
  rotate_left
  · intro X hI; obtain ⟨c0, c1, c2⟩ := f0.at hI (by omega); go_simp; try go_bits
    try rw [if_pos (by omega)]
    try with_reducible rfl
  refine wpI_take (i := 8) (v := ?_) rfl (by kernel_rfl) (by kernel_rfl) (by kernel_rfl) (fun _ _ _ h => h) ⟨by rfl, ?_⟩ ?_
  rotate_left
  · intro X hI; go_simp; try go_bits
    try rw [if_pos (by omega)]
    try with_reducible rfl
  refine wpI_only (i := 5) rfl (by kernel_rfl) l0 (by rfl) ?_
  intro K hK
  go_simp
  go_wp2_with (go_at_call 34; (with_reducible refine (i1 _).mono ?_); rintro e w3 ⟨rfl, hb⟩; have l1 := bgo l0 hs hb; have g3 := g2.below hb; clear hb)
  refine wpI_take (i := 9) (v := ?_) rfl (by kernel_rfl) (by kernel_rfl) (by kernel_rfl) (fun _ _ _ h => h) ⟨by rfl, ?_⟩ ?_
  rotate_left
  · intro X hI; go_simp; try go_bits
    try rw [if_pos (by omega)]
    try with_reducible rfl
  refine wpI_take (i := 10) (v := ?_) rfl (by kernel_rfl) (by kernel_rfl) (by kernel_rfl) (fun _ _ _ h => h) ⟨by rfl, ?_⟩ ?_
  rotate_left
  · intro X hI; go_simp; try go_bits
    try rw [if_pos (by omega)]
    try with_reducible rfl
  refine wpI_only (i := 11) rfl (by kernel_rfl) l1 (by rfl) ?_
  intro K hK
  obtain ⟨c0, c1, z0, z1⟩ := g3
  have l5 := (l1.setCell (p := ⟨w.heap.size + 1 + 1, 0, none⟩) (Nat.le_refl _) (.int .i64 (C : Int))).setCell (p := ⟨w.heap.size + 1 + 1, 1, none⟩) (Nat.le_refl _) (.int .i64 (R : Int))
  go_simp
  refine hK _ _ ?_
  clear hK K
  refine wpI_done l5 (by kernel_rfl) ?_ _
  go_wp2
  refine bodyPost_ret (v := stv (C : Int) (R : Int)) (by simp [results, Try.results35, go_sem, c0, c1]) rfl ⟨rfl, hW.trans (l5.mono (by omega))⟩

set_option maxHeartbeats 2000000 in
theorem next_6 {a b : Int} {c l x : Nat} (hc : c ≤ 200) (hl : l ≤ 64) (hx : x ≤ 1) (w : World) : Calls Try.prog 35 #[cdv 6 a b, stv (c : Int) (l : Int), .int .i64 (x : Int)] w fun e w' => e = .returned (stv ((c + 1 : Nat) : Int) (((2 * l + x) % 64 : Nat) : Int)) ∧ Below w.heap.size w w' := by
  have i1 := reg_any (c := (c : Int)) (l := (l : Int)) (x := (x : Int)) (by omega) (by omega)
  have e1 : (2 * (l : Int) + (x : Int)).tmod 64 = (((2 * l + x) % 64 : Nat) : Int) := by rw [Int.tmod_eq_emod_of_nonneg (by omega)]; omega
  have e2 : (2 * (l : Int) + (x : Int)) % 64 = (((2 * l + x) % 64 : Nat) : Int) := by omega
  have e3 : (c : Int) + 1 = ((c + 1 : Nat) : Int) := by omega
  obtain ⟨C, hC⟩ : ∃ C : Nat, C = c + 1 := ⟨_, rfl⟩
  obtain ⟨R, hR⟩ : ∃ R : Nat, R = (2 * l + x) % 64 := ⟨_, rfl⟩
  rw [← hC] at e3
  rw [← hR] at e1 e2
  rw [← hC, ← hR]
  clear hC hR
  go_enter Try.func35, Try.ntmps35
  go_upto_region 1 with (fail)
  have hW : Below w.heap.size w (((w.alloc (.cells #[.int .i64 6, .int .i64 a, .int .i64 b] 48)).alloc (.cells #[.int .i64 (c : Int), .int .i64 (l : Int)] 52)).alloc (.cells #[.int .i64 0, .int .i64 0] 52)) := bstep (bstep (below_one _ _) (below_one _ _)) (below_one _ _)
  have f0 := ((Cdm.new w 6 a b 48).below (below_one _ (.cells #[.int .i64 (c : Int), .int .i64 (l : Int)] 52))).below (below_one _ (.cells #[.int .i64 0, .int .i64 0] 52))
  have f1 := (Stm.new (w.alloc (.cells #[.int .i64 6, .int .i64 a, .int .i64 b] 48)) (c : Int) (l : Int) 52).below (below_one _ (.cells #[.int .i64 0, .int .i64 0] 52))
  have f2 := Stm.new ((w.alloc (.cells #[.int .i64 6, .int .i64 a, .int .i64 b] 48)).alloc (.cells #[.int .i64 (c : Int), .int .i64 (l : Int)] 52)) 0 0 52
  simp only [size_one] at f1 f2
  have hs : w.heap.size + 2 ≤ (((w.alloc (.cells #[.int .i64 6, .int .i64 a, .int .i64 b] 48)).alloc (.cells #[.int .i64 (c : Int), .int .i64 (l : Int)] 52)).alloc (.cells #[.int .i64 0, .int .i64 0] 52)).heap.size := by simp only [size_one]; omega
  generalize (((w.alloc (.cells #[.int .i64 6, .int .i64 a, .int .i64 b] 48)).alloc (.cells #[.int .i64 (c : Int), .int .i64 (l : Int)] 52)).alloc (.cells #[.int .i64 0, .int .i64 0] 52)) = W at *
  have l0 : Below (w.heap.size + 2) W W.drew := (Below.refl _ _).drew
  have g2 := f2.below (Below.refl _ W).drew
  refine wp_region_any (by kernel_rfl) ?_
  change wpAny _ _ _ _ _ _ _ (World.drew _)
  refine wpI_any (I := fun X => Below (w.heap.size + 2) W X) _ _ _ _ ?_
  refine wpI_take (i := 0) (v := ?_) rfl (by kernel_rfl) (by kernel_rfl) (by kernel_rfl) (fun _ _ _ h => h) ⟨by rfl, ?_⟩ ?_
  rotate_left
  · intro X hI; go_simp; try go_bits
    try rw [if_pos (by omega)]
    try with_reducible rfl
  refine wpI_take (i := 1) (v := ?_) rfl (by kernel_rfl) (by kernel_rfl) (by kernel_rfl) (fun _ _ _ h => h) ⟨by rfl, ?_⟩ ?_
  rotate_left
  · intro X hI; obtain ⟨c0, c1, z0, z1⟩ := f1.at hI (by omega); go_simp; try go_bits
    try rw [if_pos (by omega)]
    try with_reducible rfl
  refine wpI_take (i := 2) (v := ?_) rfl (by kernel_rfl) (by kernel_rfl) (by kernel_rfl) (fun _ _ _ h => h) ⟨by rfl, ?_⟩ ?_
  rotate_left
  · intro X hI; go_simp; try go_bits
    try rw [if_pos (by omega)]
    try with_reducible rfl
  refine wpI_take (i := 3) (v := ?_) rfl (by kernel_rfl) (by kernel_rfl) (by kernel_rfl) (fun _ _ _ h => h) ⟨by rfl, ?_⟩ ?_
  rotate_left
  · intro X hI; obtain ⟨c0, c1, z0, z1⟩ := f1.at hI (by omega); go_simp; try go_bits
    try rw [if_pos (by omega)]
    try with_reducible rfl
  refine wpI_take (i := 4) (v := ?_) rfl (by kernel_rfl) (by kernel_rfl) (by kernel_rfl) (fun _ _ _ h => h) ⟨by rfl, ?_⟩ ?_
  rotate_left
  · intro X hI; go_simp; try go_bits
    try rw [if_pos (by omega)]
    try with_reducible rfl
  refine wpI_take (i := 6) (v := ?_) rfl (by kernel_rfl) (by kernel_rfl) (by kernel_rfl) (fun _ _ _ h => h) ⟨by rfl, ?_⟩ ?_
  rotate_left
  · intro X hI; go_simp; try go_bits
    try rw [if_pos (by omega)]
    try with_reducible rfl
  refine wpI_take (i := 7) (v := ?_) rfl (by kernel_rfl) (by kernel_rfl) (by kernel_rfl) (fun _ _ _ h => h) ⟨by rfl, ?_⟩ ?_
  rotate_left
  · intro X hI; obtain ⟨c0, c1, c2⟩ := f0.at hI (by omega); go_simp; try go_bits
    try rw [if_pos (by omega)]
    try with_reducible rfl
  refine wpI_take (i := 8) (v := ?_) rfl (by kernel_rfl) (by kernel_rfl) (by kernel_rfl) (fun _ _ _ h => h) ⟨by rfl, ?_⟩ ?_
  rotate_left
  · intro X hI; go_simp; try go_bits
    try rw [if_pos (by omega)]
    try with_reducible rfl
  refine wpI_only (i := 5) rfl (by kernel_rfl) l0 (by rfl) ?_
  intro K hK
  go_simp
  go_wp2_with (go_at_call 34; (with_reducible refine (i1 _).mono ?_); rintro e w3 ⟨rfl, hb⟩; have l1 := bgo l0 hs hb; have g3 := g2.below hb; clear hb)
  refine wpI_take (i := 9) (v := ?_) rfl (by kernel_rfl) (by kernel_rfl) (by kernel_rfl) (fun _ _ _ h => h) ⟨by rfl, ?_⟩ ?_
  rotate_left
  · intro X hI; go_simp; try go_bits
    try rw [if_pos (by omega)]
    try with_reducible rfl
  refine wpI_take (i := 10) (v := ?_) rfl (by kernel_rfl) (by kernel_rfl) (by kernel_rfl) (fun _ _ _ h => h) ⟨by rfl, ?_⟩ ?_
  rotate_left
  · intro X hI; go_simp; try go_bits
    try rw [if_pos (by omega)]
    try with_reducible rfl
  refine wpI_only (i := 11) rfl (by kernel_rfl) l1 (by rfl) ?_
  intro K hK
  obtain ⟨c0, c1, z0, z1⟩ := g3
  have l5 := (l1.setCell (p := ⟨w.heap.size + 1 + 1, 0, none⟩) (Nat.le_refl _) (.int .i64 (C : Int))).setCell (p := ⟨w.heap.size + 1 + 1, 1, none⟩) (Nat.le_refl _) (.int .i64 (R : Int))
  go_simp
  refine hK _ _ ?_
  clear hK K
  refine wpI_done l5 (by kernel_rfl) ?_ _
  go_wp2
  refine bodyPost_ret (v := stv (C : Int) (R : Int)) (by simp [results, Try.results35, go_sem, c0, c1]) rfl ⟨rfl, hW.trans (l5.mono (by omega))⟩

theorem next_any {m : Int} (hm : 1 ≤ m ∧ m ≤ 6) {a b : Int} {c l x : Nat} (hc : c ≤ 200) (hl : l ≤ 64) (hx : x ≤ 1) (w : World) : Calls Try.prog 35 #[cdv m a b, stv (c : Int) (l : Int), .int .i64 (x : Int)] w fun e w' => e = .returned (stv ((c + 1 : Nat) : Int) (((2 * l + x) % 2 ^ m.toNat : Nat) : Int)) ∧ Below w.heap.size w w' := by
  rcases six hm with rfl | rfl | rfl | rfl | rfl | rfl
  · exact next_1 hc hl hx w
  · exact next_2 hc hl hx w
  · exact next_3 hc hl hx w
  · exact next_4 hc hl hx w
  · exact next_5 hc hl hx w
  · exact next_6 hc hl hx w
end Go.Proofs.Ytgkcofjhajjjgaa
