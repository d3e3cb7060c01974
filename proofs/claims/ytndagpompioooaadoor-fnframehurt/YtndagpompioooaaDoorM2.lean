/- YG YH YI YJ YK YL. -/
import Derived.Test.YtndagpompioooaaDoorM1
import Derived.Test.YtndagpompioooaaDoorPI
import Derived.Test.YtndagpompioooaaDoorUE
import Derived.Test.YtndagpompioooaaDoorUG
import Derived.Test.YtndagpompioooaaDoorPL
namespace Go.Proofs.YtndagpompioooaaDoor
open Go.RowKit

theorem ord_any (x : Int) (w : World) : Calls Tryd.prog 85 #[.int .i64 x] w fun e w' => e = .returned (.bool (decide (0 ≤ x ∧ x ≤ 3))) ∧ w' = w := by
  by_cases h : 0 ≤ x <;> by_cases h2 : x ≤ 3
  all_goals
    first
      | rw [decide_eq_true (show 0 ≤ x ∧ x ≤ 3 from ⟨h, h2⟩)]
      | rw [decide_eq_false (show ¬ (0 ≤ x ∧ x ≤ 3) by omega)]
    go_enter Tryd.func85, Tryd.ntmps85
    go_wp2
    go_ret
    exact ⟨rfl, rfl⟩

theorem rf_short {w : World} {v : Value} {n : Nat} {y : Nat → Int} {at_ : Int} (hv : Bl w v n y) (hn : n ≤ 1048576) (ha : -9223372036854775808 ≤ at_ ∧ at_ ≤ 9223372036854775807) (h : ¬ (0 ≤ at_ ∧ at_ + 3 ≤ n)) :
    Calls Tryd.prog 70 #[v, .int .i64 at_] w fun e w' => e = pan 1 ∧ w' = w := by
  obtain ⟨ao, cap, rfl, hcap, hc⟩ := hv
  clear hc
  by_cases h0 : 0 ≤ at_
  · have h1 : ¬ (3 ≤ (n : Int) - at_) := by omega
    go_enter Tryd.func70, Tryd.ntmps70
    go_wp2_with (go_at_call 84; (try rw [decide_eq_false (show ¬ (3 ≤ (n : Int) - at_) by omega)]); (with_reducible refine (need_no 1 _).mono ?_); rintro e w' ⟨rfl, hw⟩; obtain rfl := hw.symm)
    exact ⟨rfl, rfl, rfl⟩
  · go_enter Tryd.func70, Tryd.ntmps70
    go_wp2_with (go_at_call 84; (with_reducible refine (need_no 1 _).mono ?_); rintro e w' ⟨rfl, hw⟩; obtain rfl := hw.symm)
    exact ⟨rfl, rfl, rfl⟩
end Go.Proofs.YtndagpompioooaaDoor

namespace Go.Proofs.YtndagpompioooaaDoor
open Go.RowKit

set_option maxRecDepth 20000 in
set_option maxHeartbeats 8000000 in
theorem rf_head {w : World} {v : Value} {n a X0 X1 X2 : Nat} {y : Nat → Int} (hv : Bl w v n y) (hn : n ≤ 1048576) (ha : a + 3 ≤ n) (e0 : y a = (X0 : Int)) (e1 : y (a + 1) = (X1 : Int)) (e2 : y (a + 2) = (X2 : Int)) (b0 : X0 < 256) (b1 : X1 < 256) (b2 : X2 < 256) (h : ¬ (X0 = 70 ∧ X1 + 1 ≤ 128 ∧ X2 % 32 ≤ 30 ∧ X2 / 32 ≤ 3)) :
    Calls Tryd.prog 70 #[v, .int .i64 (a : Int)] w fun e w' => e = pan 2 ∧ Below w.heap.size w w' := by
  obtain ⟨ao, cap, rfl, hcap, hc⟩ := hv
  obtain ⟨bb, off, rfl, hlt, hcell⟩ := hc (by omega)
  have c0 := hcell a (by omega)
  have c1 := hcell (a + 1) (by omega)
  have c2 := hcell (a + 2) (by omega)
  rw [e0] at c0
  rw [e1] at c1
  rw [e2] at c2
  clear hcell hc e0 e1 e2
  have d1 : (X2 : Int).tdiv 32 = ((X2 / 32 : Nat) : Int) := by rw [Int.tdiv_eq_ediv_of_nonneg (by omega)]; omega
  have d2 : (X2 : Int).tmod 32 = ((X2 % 32 : Nat) : Int) := by rw [Int.tmod_eq_emod_of_nonneg (by omega)]; omega
  have d3 : (X2 : Int) / 32 = ((X2 / 32 : Nat) : Int) := by omega
  have d4 : (X2 : Int) % 32 = ((X2 % 32 : Nat) : Int) := by omega
  obtain ⟨o, ho⟩ : ∃ o, o = X2 / 32 := ⟨_, rfl⟩
  obtain ⟨k, hk⟩ : ∃ k, k = X2 % 32 := ⟨_, rfl⟩
  rw [← ho] at d1 d3 h
  rw [← hk] at d2 d4 h
  have bo : o ≤ 7 := by omega
  have bk : k ≤ 31 := by omega
  clear ho hk
  have iS := size_any ((X1 : Int) + 1)
  have iL := low_any (k : Int)
  have iO := ord_any (o : Int)
  have g1 : (3 : Int) ≤ (n : Int) - (a : Int) := by omega
  go_enter Tryd.func70, Tryd.ntmps70
  go_wp2_with (go_at_call 84; (try rw [decide_eq_true (show (3 : Int) ≤ (n : Int) - (a : Int) by omega)]); (with_reducible refine (need_yes 1 _).mono ?_); rintro e w' ⟨rfl, hw⟩; obtain rfl := hw.symm)
  refine wp_region_any (by kernel_rfl) ?_
  change wpAny _ _ _ _ _ _ _ (World.drew _)
  refine wpI_any (I := fun X => X.cell? ⟨bb, off + (a + 1), none⟩ = some (.int .u8 (X1 : Int)) ∧ X.cell? ⟨bb, off + (a + 2), none⟩ = some (.int .u8 (X2 : Int))) _ _ _ _ ?_
  refine wpI_take (i := 0) (v := ?_) rfl (by kernel_rfl) (by kernel_rfl) (by kernel_rfl) (fun _ _ _ h => h) ⟨by rfl, ?_⟩ ?_
  rotate_left
  · intro X hI; go_simp; try go_bits
    try rw [if_pos (by omega)]
    try with_reducible rfl
  refine wpI_take (i := 1) (v := ?_) rfl (by kernel_rfl) (by kernel_rfl) (by kernel_rfl) (fun _ _ _ h => h) ⟨by rfl, ?_⟩ ?_
  rotate_left
  · intro X hI; go_simp; try go_bits
    try rw [if_pos (by omega)]
    try with_reducible rfl
  refine wpI_take (i := 2) (v := ?_) rfl (by kernel_rfl) (by kernel_rfl) (by kernel_rfl) (fun _ _ _ h => h) ⟨by rfl, ?_⟩ ?_
  rotate_left
  · intro X hI; go_simp; try go_bits
    try rw [if_pos (by omega)]
    try with_reducible rfl
  refine wpI_take (i := 3) (v := ?_) rfl (by kernel_rfl) (by kernel_rfl) (by kernel_rfl) (fun _ _ _ h => h) ⟨by rfl, ?_⟩ ?_
  rotate_left
  · intro X hI; go_simp; try go_bits
    try rw [if_pos (by omega)]
    try with_reducible rfl
  refine wpI_take (i := 4) (v := ?_) rfl (by kernel_rfl) (by kernel_rfl) (by kernel_rfl) (fun _ _ _ h => h) ⟨by rfl, ?_⟩ ?_
  rotate_left
  · intro X hI; obtain ⟨q1, q2⟩ := hI; go_simp; try go_bits
    try rw [if_pos (by omega)]
    try with_reducible rfl
  refine wpI_take (i := 5) (v := ?_) rfl (by kernel_rfl) (by kernel_rfl) (by kernel_rfl) (fun _ _ _ h => h) ⟨by rfl, ?_⟩ ?_
  rotate_left
  · intro X hI; go_simp; try go_bits
    try rw [if_pos (by omega)]
    try with_reducible rfl
  refine wpI_take (i := 6) (v := ?_) rfl (by kernel_rfl) (by kernel_rfl) (by kernel_rfl) (fun _ _ _ h => h) ⟨by rfl, ?_⟩ ?_
  rotate_left
  · intro X hI; go_simp; try go_bits
    try rw [if_pos (by omega)]
    try with_reducible rfl
  refine wpI_take (i := 7) (v := ?_) rfl (by kernel_rfl) (by kernel_rfl) (by kernel_rfl) (fun _ _ _ h => h) ⟨by rfl, ?_⟩ ?_
  rotate_left
  · intro X hI; go_simp; try go_bits
    try rw [if_pos (by omega)]
    try with_reducible rfl
  refine wpI_take (i := 8) (v := ?_) rfl (by kernel_rfl) (by kernel_rfl) (by kernel_rfl) (fun _ _ _ h => h) ⟨by rfl, ?_⟩ ?_
  rotate_left
  · intro X hI; go_simp; try go_bits
    try rw [if_pos (by omega)]
    try with_reducible rfl
  refine wpI_take (i := 9) (v := ?_) rfl (by kernel_rfl) (by kernel_rfl) (by kernel_rfl) (fun _ _ _ h => h) ⟨by rfl, ?_⟩ ?_
  rotate_left
  · intro X hI; go_simp; try go_bits
    try rw [if_pos (by omega)]
    try with_reducible rfl
  refine wpI_take (i := 10) (v := ?_) rfl (by kernel_rfl) (by kernel_rfl) (by kernel_rfl) (fun _ _ _ h => h) ⟨by rfl, ?_⟩ ?_
  rotate_left
  · intro X hI; go_simp; try go_bits
    try rw [if_pos (by omega)]
    try with_reducible rfl
  refine wpI_take (i := 11) (v := ?_) rfl (by kernel_rfl) (by kernel_rfl) (by kernel_rfl) (fun _ _ _ h => h) ⟨by rfl, ?_⟩ ?_
  rotate_left
  · intro X hI; obtain ⟨q1, q2⟩ := hI; go_simp; try go_bits
    try rw [if_pos (by omega)]
    try with_reducible rfl
  refine wpI_take (i := 12) (v := ?_) rfl (by kernel_rfl) (by kernel_rfl) (by kernel_rfl) (fun _ _ _ h => h) ⟨by rfl, ?_⟩ ?_
  rotate_left
  · intro X hI; go_simp; try go_bits
    try rw [if_pos (by omega)]
    try with_reducible rfl
  refine wpI_take (i := 13) (v := ?_) rfl (by kernel_rfl) (by kernel_rfl) (by kernel_rfl) (fun _ _ _ h => h) ⟨by rfl, ?_⟩ ?_
  rotate_left
  · intro X hI; go_simp; try go_bits
    try rw [if_pos (by omega)]
    try with_reducible rfl
  refine wpI_take (i := 14) (v := ?_) rfl (by kernel_rfl) (by kernel_rfl) (by kernel_rfl) (fun _ _ _ h => h) ⟨by rfl, ?_⟩ ?_
  rotate_left
  · intro X hI; go_simp; try go_bits
    try rw [if_pos (by omega)]
    try with_reducible rfl
  refine wpI_take (i := 15) (v := ?_) rfl (by kernel_rfl) (by kernel_rfl) (by kernel_rfl) (fun _ _ _ h => h) ⟨by rfl, ?_⟩ ?_
  rotate_left
  · intro X hI; go_simp; try go_bits
    try rw [if_pos (by omega)]
    try with_reducible rfl
  refine wpI_take (i := 16) (v := ?_) rfl (by kernel_rfl) (by kernel_rfl) (by kernel_rfl) (fun _ _ _ h => h) ⟨by rfl, ?_⟩ ?_
  rotate_left
  · intro X hI; go_simp; try go_bits
    try rw [if_pos (by omega)]
    try with_reducible rfl
  refine wpI_take (i := 17) (v := ?_) rfl (by kernel_rfl) (by kernel_rfl) (by kernel_rfl) (fun _ _ _ h => h) ⟨by rfl, ?_⟩ ?_
  rotate_left
  · intro X hI; go_simp; try go_bits
    try rw [if_pos (by omega)]
    try with_reducible rfl
  refine wpI_take (i := 18) (v := ?_) rfl (by kernel_rfl) (by kernel_rfl) (by kernel_rfl) (fun _ _ _ h => h) ⟨by rfl, ?_⟩ ?_
  rotate_left
  · intro X hI; obtain ⟨q1, q2⟩ := hI; go_simp; try go_bits
    try rw [if_pos (by omega)]
    try with_reducible rfl
  refine wpI_take (i := 19) (v := ?_) rfl (by kernel_rfl) (by kernel_rfl) (by kernel_rfl) (fun _ _ _ h => h) ⟨by rfl, ?_⟩ ?_
  rotate_left
  · intro X hI; go_simp; try go_bits
    try rw [if_pos (by omega)]
    try with_reducible rfl
  refine wpI_take (i := 20) (v := ?_) rfl (by kernel_rfl) (by kernel_rfl) (by kernel_rfl) (fun _ _ _ h => h) ⟨by rfl, ?_⟩ ?_
  rotate_left
  · intro X hI; go_simp; try go_bits
    try rw [if_pos (by omega)]
    try with_reducible rfl
  refine wpI_take (i := 21) (v := ?_) rfl (by kernel_rfl) (by kernel_rfl) (by kernel_rfl) (fun _ _ _ h => h) ⟨by rfl, ?_⟩ ?_
  rotate_left
  · intro X hI; go_simp; try go_bits
    try rw [if_pos (by omega)]
    try with_reducible rfl
  refine wpI_take (i := 22) (v := ?_) rfl (by kernel_rfl) (by kernel_rfl) (by kernel_rfl) (fun _ _ _ h => h) ⟨by rfl, ?_⟩ ?_
  rotate_left
  · intro X hI; go_simp; try go_bits
    try rw [if_pos (by omega)]
    try with_reducible rfl
  refine wpI_take (i := 23) (v := ?_) rfl (by kernel_rfl) (by kernel_rfl) (by kernel_rfl) (fun _ _ _ h => h) ⟨by rfl, ?_⟩ ?_
  rotate_left
  · intro X hI; go_simp; try go_bits
    try rw [if_pos (by omega)]
    try with_reducible rfl
  refine wpI_done ⟨c1, c2⟩ (by kernel_rfl) ?_ _
  clear iS iL iO
  by_cases h0 : X0 = 70
  · subst h0
    by_cases h1 : X1 + 1 ≤ 128
    · have iS : Hid (∀ w, Calls Tryd.prog 56 #[.int .i64 ((X1 : Int) + 1)] w fun e w' => e = .returned (.bool true) ∧ w' = w) := fun w => by
        have := size_any ((X1 : Int) + 1) w
        rw [decide_eq_true (by omega)] at this
        exact this
      by_cases h2 : k ≤ 30
      · have iL : Hid (∀ w, Calls Tryd.prog 44 #[.int .i64 (k : Int)] w fun e w' => e = .returned (.bool true) ∧ w' = w) := fun w => by
          have := low_any (k : Int) w
          rw [decide_eq_true (by omega)] at this
          exact this
        have iO : Hid (∀ w, Calls Tryd.prog 85 #[.int .i64 (o : Int)] w fun e w' => e = .returned (.bool false) ∧ w' = w) := fun w => by
          have := ord_any (o : Int) w
          rw [decide_eq_false (by omega)] at this
          exact this
        clear h
        go_wp2_with (first | (go_at_call 56; (with_reducible refine (iS.out _).mono ?_); rintro e w' ⟨rfl, hw⟩; obtain rfl := hw.symm) | (go_at_call 44; (with_reducible refine (iL.out _).mono ?_); rintro e w' ⟨rfl, hw⟩; obtain rfl := hw.symm) | (go_at_call 85; (with_reducible refine (iO.out _).mono ?_); rintro e w' ⟨rfl, hw⟩; obtain rfl := hw.symm) | (go_at_call 84; (with_reducible refine (need_no 2 _).mono ?_); rintro e w' ⟨rfl, hw⟩; obtain rfl := hw.symm))
        exact ⟨rfl, rfl, by first | exact Below.refl _ _ | exact (Below.refl _ _).drew | exact (Below.refl _ _).drew.drew⟩
      · have iL : Hid (∀ w, Calls Tryd.prog 44 #[.int .i64 (k : Int)] w fun e w' => e = .returned (.bool false) ∧ w' = w) := fun w => by
          have := low_any (k : Int) w
          rw [decide_eq_false (by omega)] at this
          exact this
        clear h
        go_wp2_with (first | (go_at_call 56; (with_reducible refine (iS.out _).mono ?_); rintro e w' ⟨rfl, hw⟩; obtain rfl := hw.symm) | (go_at_call 44; (with_reducible refine (iL.out _).mono ?_); rintro e w' ⟨rfl, hw⟩; obtain rfl := hw.symm) | (go_at_call 84; (with_reducible refine (need_no 2 _).mono ?_); rintro e w' ⟨rfl, hw⟩; obtain rfl := hw.symm))
        exact ⟨rfl, rfl, by first | exact Below.refl _ _ | exact (Below.refl _ _).drew | exact (Below.refl _ _).drew.drew⟩
    · have iS : Hid (∀ w, Calls Tryd.prog 56 #[.int .i64 ((X1 : Int) + 1)] w fun e w' => e = .returned (.bool false) ∧ w' = w) := fun w => by
        have := size_any ((X1 : Int) + 1) w
        rw [decide_eq_false (by omega)] at this
        exact this
      clear h
      go_wp2_with (first | (go_at_call 56; (with_reducible refine (iS.out _).mono ?_); rintro e w' ⟨rfl, hw⟩; obtain rfl := hw.symm) | (go_at_call 84; (with_reducible refine (need_no 2 _).mono ?_); rintro e w' ⟨rfl, hw⟩; obtain rfl := hw.symm))
      exact ⟨rfl, rfl, by first | exact Below.refl _ _ | exact (Below.refl _ _).drew | exact (Below.refl _ _).drew.drew⟩
  · have h1 : ((X0 : Int) == 70) = false := by rw [beq_eq_false_iff_ne]; omega
    clear h
    go_wp2_with (first | (go_at_call 84; (with_reducible refine (need_no 2 _).mono ?_); rintro e w' ⟨rfl, hw⟩; obtain rfl := hw.symm))
    exact ⟨rfl, rfl, by first | exact Below.refl _ _ | exact (Below.refl _ _).drew | exact (Below.refl _ _).drew.drew⟩
end Go.Proofs.YtndagpompioooaaDoor

namespace Go.Proofs.YtndagpompioooaaDoor
open Go.RowKit

set_option maxRecDepth 20000 in
set_option maxHeartbeats 8000000 in
theorem rf_bits {w : World} {v : Value} {n a X0 X1 X2 : Nat} {y : Nat → Int} (hv : Bl w v n y) (hy : Byt n y) (hn : n ≤ 1048576) (ha : a + 3 ≤ n) (e0 : y a = (X0 : Int)) (e1 : y (a + 1) = (X1 : Int)) (e2 : y (a + 2) = (X2 : Int)) (b0 : X0 < 256) (b1 : X1 < 256) (b2 : X2 < 256) (h : X0 = 70 ∧ X1 + 1 ≤ 128 ∧ X2 % 32 ≤ 30 ∧ X2 / 32 ≤ 3) (hr : rdn (bob (fun i => y (a + 3 + i))) (8 * (n - (a + 3))) (X2 % 32) (X1 + 1) = none) :
    Calls Tryd.prog 70 #[v, .int .i64 (a : Int)] w fun e w' => e = pan 3 ∧ Below w.heap.size w w' := by
  obtain ⟨ao, cap, rfl, hcap, hc⟩ := hv
  obtain ⟨bb, off, rfl, hlt, hcell⟩ := hc (by omega)
  have c0 := hcell a (by omega)
  have c1 := hcell (a + 1) (by omega)
  have c2 := hcell (a + 2) (by omega)
  rw [e0] at c0
  rw [e1] at c1
  rw [e2] at c2
  have HC : Hid (∀ i, i < n - (a + 3) → w.cell? ⟨bb, off + (a + 3) + i, none⟩ = some (.int .u8 (y (a + 3 + i)))) := fun i hi => by have := hcell (a + 3 + i) (by omega); rw [show off + (a + 3 + i) = off + (a + 3) + i by omega] at this; exact this
  have HY : Hid (Byt n y) := hy
  clear hcell hc e0 e1 e2 hy
  have d1 : (X2 : Int).tdiv 32 = ((X2 / 32 : Nat) : Int) := by rw [Int.tdiv_eq_ediv_of_nonneg (by omega)]; omega
  have d2 : (X2 : Int).tmod 32 = ((X2 % 32 : Nat) : Int) := by rw [Int.tmod_eq_emod_of_nonneg (by omega)]; omega
  have d3 : (X2 : Int) / 32 = ((X2 / 32 : Nat) : Int) := by omega
  have d4 : (X2 : Int) % 32 = ((X2 % 32 : Nat) : Int) := by omega
  obtain ⟨o, ho⟩ : ∃ o, o = X2 / 32 := ⟨_, rfl⟩
  obtain ⟨k, hk⟩ : ∃ k, k = X2 % 32 := ⟨_, rfl⟩
  rw [← ho] at d1 d3 h
  rw [← hk] at d2 d4 h
  have bo : o ≤ 7 := by omega
  have bk : k ≤ 31 := by omega
  rw [← hk] at hr
  have HRN : Hid _ := hr
  clear ho hk hr
  have iS := size_any ((X1 : Int) + 1)
  have iL := low_any (k : Int)
  have iO := ord_any (o : Int)
  have g1 : (3 : Int) ≤ (n : Int) - (a : Int) := by omega
  go_enter Tryd.func70, Tryd.ntmps70
  go_wp2_with (go_at_call 84; (try rw [decide_eq_true (show (3 : Int) ≤ (n : Int) - (a : Int) by omega)]); (with_reducible refine (need_yes 1 _).mono ?_); rintro e w' ⟨rfl, hw⟩; obtain rfl := hw.symm)
  refine wp_region_any (by kernel_rfl) ?_
  change wpAny _ _ _ _ _ _ _ (World.drew _)
  refine wpI_any (I := fun X => X.cell? ⟨bb, off + (a + 1), none⟩ = some (.int .u8 (X1 : Int)) ∧ X.cell? ⟨bb, off + (a + 2), none⟩ = some (.int .u8 (X2 : Int))) _ _ _ _ ?_
  refine wpI_take (i := 0) (v := ?_) rfl (by kernel_rfl) (by kernel_rfl) (by kernel_rfl) (fun _ _ _ h => h) ⟨by rfl, ?_⟩ ?_
  rotate_left
  · intro X hI; go_simp; try go_bits
    try rw [if_pos (by omega)]
    try with_reducible rfl
  refine wpI_take (i := 1) (v := ?_) rfl (by kernel_rfl) (by kernel_rfl) (by kernel_rfl) (fun _ _ _ h => h) ⟨by rfl, ?_⟩ ?_
  rotate_left
  · intro X hI; go_simp; try go_bits
    try rw [if_pos (by omega)]
    try with_reducible rfl
  refine wpI_take (i := 2) (v := ?_) rfl (by kernel_rfl) (by kernel_rfl) (by kernel_rfl) (fun _ _ _ h => h) ⟨by rfl, ?_⟩ ?_
  rotate_left
  · intro X hI; go_simp; try go_bits
    try rw [if_pos (by omega)]
    try with_reducible rfl
  refine wpI_take (i := 3) (v := ?_) rfl (by kernel_rfl) (by kernel_rfl) (by kernel_rfl) (fun _ _ _ h => h) ⟨by rfl, ?_⟩ ?_
  rotate_left
  · intro X hI; go_simp; try go_bits
    try rw [if_pos (by omega)]
    try with_reducible rfl
  refine wpI_take (i := 4) (v := ?_) rfl (by kernel_rfl) (by kernel_rfl) (by kernel_rfl) (fun _ _ _ h => h) ⟨by rfl, ?_⟩ ?_
  rotate_left
  · intro X hI; obtain ⟨q1, q2⟩ := hI; go_simp; try go_bits
    try rw [if_pos (by omega)]
    try with_reducible rfl
  refine wpI_take (i := 5) (v := ?_) rfl (by kernel_rfl) (by kernel_rfl) (by kernel_rfl) (fun _ _ _ h => h) ⟨by rfl, ?_⟩ ?_
  rotate_left
  · intro X hI; go_simp; try go_bits
    try rw [if_pos (by omega)]
    try with_reducible rfl
  refine wpI_take (i := 6) (v := ?_) rfl (by kernel_rfl) (by kernel_rfl) (by kernel_rfl) (fun _ _ _ h => h) ⟨by rfl, ?_⟩ ?_
  rotate_left
  · intro X hI; go_simp; try go_bits
    try rw [if_pos (by omega)]
    try with_reducible rfl
  refine wpI_take (i := 7) (v := ?_) rfl (by kernel_rfl) (by kernel_rfl) (by kernel_rfl) (fun _ _ _ h => h) ⟨by rfl, ?_⟩ ?_
  rotate_left
  · intro X hI; go_simp; try go_bits
    try rw [if_pos (by omega)]
    try with_reducible rfl
  refine wpI_take (i := 8) (v := ?_) rfl (by kernel_rfl) (by kernel_rfl) (by kernel_rfl) (fun _ _ _ h => h) ⟨by rfl, ?_⟩ ?_
  rotate_left
  · intro X hI; go_simp; try go_bits
    try rw [if_pos (by omega)]
    try with_reducible rfl
  refine wpI_take (i := 9) (v := ?_) rfl (by kernel_rfl) (by kernel_rfl) (by kernel_rfl) (fun _ _ _ h => h) ⟨by rfl, ?_⟩ ?_
  rotate_left
  · intro X hI; go_simp; try go_bits
    try rw [if_pos (by omega)]
    try with_reducible rfl
  refine wpI_take (i := 10) (v := ?_) rfl (by kernel_rfl) (by kernel_rfl) (by kernel_rfl) (fun _ _ _ h => h) ⟨by rfl, ?_⟩ ?_
  rotate_left
  · intro X hI; go_simp; try go_bits
    try rw [if_pos (by omega)]
    try with_reducible rfl
  refine wpI_take (i := 11) (v := ?_) rfl (by kernel_rfl) (by kernel_rfl) (by kernel_rfl) (fun _ _ _ h => h) ⟨by rfl, ?_⟩ ?_
  rotate_left
  · intro X hI; obtain ⟨q1, q2⟩ := hI; go_simp; try go_bits
    try rw [if_pos (by omega)]
    try with_reducible rfl
  refine wpI_take (i := 12) (v := ?_) rfl (by kernel_rfl) (by kernel_rfl) (by kernel_rfl) (fun _ _ _ h => h) ⟨by rfl, ?_⟩ ?_
  rotate_left
  · intro X hI; go_simp; try go_bits
    try rw [if_pos (by omega)]
    try with_reducible rfl
  refine wpI_take (i := 13) (v := ?_) rfl (by kernel_rfl) (by kernel_rfl) (by kernel_rfl) (fun _ _ _ h => h) ⟨by rfl, ?_⟩ ?_
  rotate_left
  · intro X hI; go_simp; try go_bits
    try rw [if_pos (by omega)]
    try with_reducible rfl
  refine wpI_take (i := 14) (v := ?_) rfl (by kernel_rfl) (by kernel_rfl) (by kernel_rfl) (fun _ _ _ h => h) ⟨by rfl, ?_⟩ ?_
  rotate_left
  · intro X hI; go_simp; try go_bits
    try rw [if_pos (by omega)]
    try with_reducible rfl
  refine wpI_take (i := 15) (v := ?_) rfl (by kernel_rfl) (by kernel_rfl) (by kernel_rfl) (fun _ _ _ h => h) ⟨by rfl, ?_⟩ ?_
  rotate_left
  · intro X hI; go_simp; try go_bits
    try rw [if_pos (by omega)]
    try with_reducible rfl
  refine wpI_take (i := 16) (v := ?_) rfl (by kernel_rfl) (by kernel_rfl) (by kernel_rfl) (fun _ _ _ h => h) ⟨by rfl, ?_⟩ ?_
  rotate_left
  · intro X hI; go_simp; try go_bits
    try rw [if_pos (by omega)]
    try with_reducible rfl
  refine wpI_take (i := 17) (v := ?_) rfl (by kernel_rfl) (by kernel_rfl) (by kernel_rfl) (fun _ _ _ h => h) ⟨by rfl, ?_⟩ ?_
  rotate_left
  · intro X hI; go_simp; try go_bits
    try rw [if_pos (by omega)]
    try with_reducible rfl
  refine wpI_take (i := 18) (v := ?_) rfl (by kernel_rfl) (by kernel_rfl) (by kernel_rfl) (fun _ _ _ h => h) ⟨by rfl, ?_⟩ ?_
  rotate_left
  · intro X hI; obtain ⟨q1, q2⟩ := hI; go_simp; try go_bits
    try rw [if_pos (by omega)]
    try with_reducible rfl
  refine wpI_take (i := 19) (v := ?_) rfl (by kernel_rfl) (by kernel_rfl) (by kernel_rfl) (fun _ _ _ h => h) ⟨by rfl, ?_⟩ ?_
  rotate_left
  · intro X hI; go_simp; try go_bits
    try rw [if_pos (by omega)]
    try with_reducible rfl
  refine wpI_take (i := 20) (v := ?_) rfl (by kernel_rfl) (by kernel_rfl) (by kernel_rfl) (fun _ _ _ h => h) ⟨by rfl, ?_⟩ ?_
  rotate_left
  · intro X hI; go_simp; try go_bits
    try rw [if_pos (by omega)]
    try with_reducible rfl
  refine wpI_take (i := 21) (v := ?_) rfl (by kernel_rfl) (by kernel_rfl) (by kernel_rfl) (fun _ _ _ h => h) ⟨by rfl, ?_⟩ ?_
  rotate_left
  · intro X hI; go_simp; try go_bits
    try rw [if_pos (by omega)]
    try with_reducible rfl
  refine wpI_take (i := 22) (v := ?_) rfl (by kernel_rfl) (by kernel_rfl) (by kernel_rfl) (fun _ _ _ h => h) ⟨by rfl, ?_⟩ ?_
  rotate_left
  · intro X hI; go_simp; try go_bits
    try rw [if_pos (by omega)]
    try with_reducible rfl
  refine wpI_take (i := 23) (v := ?_) rfl (by kernel_rfl) (by kernel_rfl) (by kernel_rfl) (fun _ _ _ h => h) ⟨by rfl, ?_⟩ ?_
  rotate_left
  · intro X hI; go_simp; try go_bits
    try rw [if_pos (by omega)]
    try with_reducible rfl
  refine wpI_done ⟨c1, c2⟩ (by kernel_rfl) ?_ _
  clear iS iL iO
  obtain ⟨h0, h1, h2, h3⟩ := h
  subst h0
  have iS : Hid (∀ w, Calls Tryd.prog 56 #[.int .i64 ((X1 : Int) + 1)] w fun e w' => e = .returned (.bool true) ∧ w' = w) := fun w => by
    have := size_any ((X1 : Int) + 1) w
    rw [decide_eq_true (by omega)] at this
    exact this
  have iL : Hid (∀ w, Calls Tryd.prog 44 #[.int .i64 (k : Int)] w fun e w' => e = .returned (.bool true) ∧ w' = w) := fun w => by
    have := low_any (k : Int) w
    rw [decide_eq_true (by omega)] at this
    exact this
  have iO : Hid (∀ w, Calls Tryd.prog 85 #[.int .i64 (o : Int)] w fun e w' => e = .returned (.bool true) ∧ w' = w) := fun w => by
    have := ord_any (o : Int) w
    rw [decide_eq_true (by omega)] at this
    exact this
  go_upto_region 4 with (first | (go_at_call 56; (with_reducible refine (iS.out _).mono ?_); rintro e w' ⟨rfl, hw⟩; obtain rfl := hw.symm) | (go_at_call 44; (with_reducible refine (iL.out _).mono ?_); rintro e w' ⟨rfl, hw⟩; obtain rfl := hw.symm) | (go_at_call 85; (with_reducible refine (iO.out _).mono ?_); rintro e w' ⟨rfl, hw⟩; obtain rfl := hw.symm) | (go_at_call 84; (with_reducible refine (need_yes 2 _).mono ?_); rintro e w' ⟨rfl, hw⟩; obtain rfl := hw.symm))
  clear iS iL iO
  obtain ⟨m, hm⟩ : ∃ m, m = n - (a + 3) := ⟨_, rfl⟩
  have hm2 : m ≤ 1048576 := by omega
  have e8 : (X1 : Int) + 1 = ((X1 + 1 : Nat) : Int) := by omega
  have NU : Hid (∀ W G Bx v', Rdb W G Bx v' (8 * m) 0 (bob (fun i => y (a + 3 + i))) → Calls Tryd.prog 52 #[.pointer (some ⟨G, 0, none⟩), .int .i64 (k : Int), .int .i64 ((X1 : Int) + 1)] W fun e w' => e = pan 3 ∧ Keep G W w') := fun W G Bx v' hR => by
    rw [e8]
    refine (bnumbers_any hR (fun i _ => bob_bit _ i) (by omega) (by omega) (by omega)).mono ?_
    rintro e w' (⟨R2, a2, u, q1, _⟩ | ⟨_, rfl, q3⟩)
    · rw [hm, HRN.out] at q1; cases q1
    · exact ⟨rfl, q3⟩
  clear e8
  have HYM : Hid (∀ i, i < m → 0 ≤ y (a + 3 + i) ∧ y (a + 3 + i) < 256) := fun i hi => HY.out _ (by omega)
  rw [← hm] at HC
  by_cases hcp : cap = a + 3
  · have BM : Bl w (.slice (some ⟨bb, off, none⟩) m 0) m (fun i => y (a + 3 + i)) := ⟨_, _, rfl, by omega, fun h => absurd h (by omega)⟩
    have hm0 : n - (a + 3) = m := hm.symm
    have HM : Hid (m = n - (a + 3)) := hm
    clear hm
    have RD : Hid (∀ W, Below w.heap.size w W → W.heap.size = w.heap.size → Calls Tryd.prog 86 #[.slice (some ⟨bb, off, none⟩) m 0] W fun e w' => e = .returned (.pointer (some ⟨w.heap.size + 1, 0, none⟩)) ∧ Rdb w' (w.heap.size + 1) w.heap.size (.slice (some ⟨bb, off, none⟩) m 0) (8 * m) 0 (bob (fun i => y (a + 3 + i))) ∧ Below w.heap.size w w' ∧ w'.heap.size = w.heap.size + 2) := fun W hW hs => by
      have := breader_any (BM.below hW) HYM.out (by omega)
      rw [hs] at this
      refine this.mono ?_
      rintro e w' ⟨h1, h2, h3, h4⟩
      exact ⟨h1, h2, ⟨h3.os.trans hW.os, h3.tape.trans hW.tape, h3.output.trans hW.output, Nat.le_trans hW.size h3.size, fun k hk => (h3.block k hk).trans (hW.block k hk)⟩, h4⟩
    clear BM
    go_wp2_with (first
      | (go_at_call 86; (with_reducible refine (RD.out _ ?bel ?sz).mono ?_); (case sz => rfl); (case bel => first | exact Below.refl _ _ | exact (Below.refl _ _).drew | exact (Below.refl _ _).drew.drew); rintro e W2 ⟨rfl, hr, hb, hs⟩; have HR2 : Hid (Rdb W2 _ _ _ _ _ _) := hr; have HB2 : Hid (Below _ _ W2) := hb; have s2 := hs; clear hr hb hs)
      | (go_at_call 52; (with_reducible refine (NU.out _ _ _ _ HR2.out).mono ?_); rintro e W3 ⟨rfl, hk3⟩; have HK3 : Hid (Keep _ W2 W3) := hk3; clear hk3))
    exact ⟨rfl, rfl, Below.keep HB2.out HK3.out (by omega)⟩
  · have BM : Bl w (.slice (some ⟨bb, off + (a + 3), none⟩) m (cap - (a + 3))) m (fun i => y (a + 3 + i)) := ⟨_, _, rfl, by omega, fun _ => ⟨bb, off + (a + 3), rfl, hlt, HC.out⟩⟩
    have hm0 : n - (a + 3) = m := hm.symm
    have HM : Hid (m = n - (a + 3)) := hm
    clear hm
    have RD : Hid (∀ W, Below w.heap.size w W → W.heap.size = w.heap.size → Calls Tryd.prog 86 #[.slice (some ⟨bb, off + (a + 3), none⟩) m (cap - (a + 3))] W fun e w' => e = .returned (.pointer (some ⟨w.heap.size + 1, 0, none⟩)) ∧ Rdb w' (w.heap.size + 1) w.heap.size (.slice (some ⟨bb, off + (a + 3), none⟩) m (cap - (a + 3))) (8 * m) 0 (bob (fun i => y (a + 3 + i))) ∧ Below w.heap.size w w' ∧ w'.heap.size = w.heap.size + 2) := fun W hW hs => by
      have := breader_any (BM.below hW) HYM.out (by omega)
      rw [hs] at this
      refine this.mono ?_
      rintro e w' ⟨h1, h2, h3, h4⟩
      exact ⟨h1, h2, ⟨h3.os.trans hW.os, h3.tape.trans hW.tape, h3.output.trans hW.output, Nat.le_trans hW.size h3.size, fun k hk => (h3.block k hk).trans (hW.block k hk)⟩, h4⟩
    clear BM
    go_wp2_with (first
      | (go_at_call 86; (with_reducible refine (RD.out _ ?bel ?sz).mono ?_); (case sz => rfl); (case bel => first | exact Below.refl _ _ | exact (Below.refl _ _).drew | exact (Below.refl _ _).drew.drew); rintro e W2 ⟨rfl, hr, hb, hs⟩; have HR2 : Hid (Rdb W2 _ _ _ _ _ _) := hr; have HB2 : Hid (Below _ _ W2) := hb; have s2 := hs; clear hr hb hs)
      | (go_at_call 52; (with_reducible refine (NU.out _ _ _ _ HR2.out).mono ?_); rintro e W3 ⟨rfl, hk3⟩; have HK3 : Hid (Keep _ W2 W3) := hk3; clear hk3))
    exact ⟨rfl, rfl, Below.keep HB2.out HK3.out (by omega)⟩
end Go.Proofs.YtndagpompioooaaDoor

namespace Go.Proofs.YtndagpompioooaaDoor
open Go.RowKit

theorem pieces8_any {x : Nat} (h : x ≤ 8388608) (w : World) : Calls Tryd.prog 57 #[.int .i64 (x : Int), .int .i64 8] w fun e w' => e = .returned (.int .i64 (((x + 7) / 8 : Nat) : Int)) ∧ w' = w := by
  obtain ⟨z, hz⟩ : ∃ z, z = (x + 7) / 8 := ⟨_, rfl⟩
  have e1 : ((x : Int) + 7).tdiv 8 = (z : Int) := by rw [Int.tdiv_eq_ediv_of_nonneg (by omega)]; omega
  have e2 : ((x : Int) + 8 - 1).tdiv 8 = (z : Int) := by rw [Int.tdiv_eq_ediv_of_nonneg (by omega)]; omega
  have e3 : ((x : Int) + 7) / 8 = (z : Int) := by omega
  have e4 : ((x : Int) + 8 - 1) / 8 = (z : Int) := by omega
  rw [← hz]
  clear hz
  go_enter Tryd.func57, Tryd.ntmps57
  go_wp2
  go_ret
  exact ⟨rfl, rfl⟩

set_option maxRecDepth 20000 in
set_option maxHeartbeats 8000000 in
theorem rf_end {w : World} {v : Value} {n a X0 X1 X2 a' : Nat} {R : List Int} {y : Nat → Int} (hv : Bl w v n y) (hy : Byt n y) (hn : n ≤ 1048576) (ha : a + 3 ≤ n) (e0 : y a = (X0 : Int)) (e1 : y (a + 1) = (X1 : Int)) (e2 : y (a + 2) = (X2 : Int)) (b0 : X0 < 256) (b1 : X1 < 256) (b2 : X2 < 256) (h : X0 = 70 ∧ X1 + 1 ≤ 128 ∧ X2 % 32 ≤ 30 ∧ X2 / 32 ≤ 3) (hr : rdn (bob (fun i => y (a + 3 + i))) (8 * (n - (a + 3))) (X2 % 32) (X1 + 1) = some (R, a')) (hE : n < a + 3 + (a' + 7) / 8 + 2) :
    Calls Tryd.prog 70 #[v, .int .i64 (a : Int)] w fun e w' => e = pan 1 ∧ Below w.heap.size w w' := by
  obtain ⟨ao, cap, rfl, hcap, hc⟩ := hv
  obtain ⟨bb, off, rfl, hlt, hcell⟩ := hc (by omega)
  have c0 := hcell a (by omega)
  have c1 := hcell (a + 1) (by omega)
  have c2 := hcell (a + 2) (by omega)
  rw [e0] at c0
  rw [e1] at c1
  rw [e2] at c2
  have HC : Hid (∀ i, i < n - (a + 3) → w.cell? ⟨bb, off + (a + 3) + i, none⟩ = some (.int .u8 (y (a + 3 + i)))) := fun i hi => by have := hcell (a + 3 + i) (by omega); rw [show off + (a + 3 + i) = off + (a + 3) + i by omega] at this; exact this
  have HY : Hid (Byt n y) := hy
  clear hcell hc e0 e1 e2 hy
  have d1 : (X2 : Int).tdiv 32 = ((X2 / 32 : Nat) : Int) := by rw [Int.tdiv_eq_ediv_of_nonneg (by omega)]; omega
  have d2 : (X2 : Int).tmod 32 = ((X2 % 32 : Nat) : Int) := by rw [Int.tmod_eq_emod_of_nonneg (by omega)]; omega
  have d3 : (X2 : Int) / 32 = ((X2 / 32 : Nat) : Int) := by omega
  have d4 : (X2 : Int) % 32 = ((X2 % 32 : Nat) : Int) := by omega
  obtain ⟨o, ho⟩ : ∃ o, o = X2 / 32 := ⟨_, rfl⟩
  obtain ⟨k, hk⟩ : ∃ k, k = X2 % 32 := ⟨_, rfl⟩
  rw [← ho] at d1 d3 h
  rw [← hk] at d2 d4 h
  have bo : o ≤ 7 := by omega
  have bk : k ≤ 31 := by omega
  rw [← hk] at hr
  have HRN : Hid _ := hr
  clear ho hk hr
  have iS := size_any ((X1 : Int) + 1)
  have iL := low_any (k : Int)
  have iO := ord_any (o : Int)
  have g1 : (3 : Int) ≤ (n : Int) - (a : Int) := by omega
  go_enter Tryd.func70, Tryd.ntmps70
  go_wp2_with (go_at_call 84; (try rw [decide_eq_true (show (3 : Int) ≤ (n : Int) - (a : Int) by omega)]); (with_reducible refine (need_yes 1 _).mono ?_); rintro e w' ⟨rfl, hw⟩; obtain rfl := hw.symm)
  refine wp_region_any (by kernel_rfl) ?_
  change wpAny _ _ _ _ _ _ _ (World.drew _)
  refine wpI_any (I := fun X => X.cell? ⟨bb, off + (a + 1), none⟩ = some (.int .u8 (X1 : Int)) ∧ X.cell? ⟨bb, off + (a + 2), none⟩ = some (.int .u8 (X2 : Int))) _ _ _ _ ?_
  refine wpI_take (i := 0) (v := ?_) rfl (by kernel_rfl) (by kernel_rfl) (by kernel_rfl) (fun _ _ _ h => h) ⟨by rfl, ?_⟩ ?_
  rotate_left
  · intro X hI; go_simp; try go_bits
    try rw [if_pos (by omega)]
    try with_reducible rfl
  refine wpI_take (i := 1) (v := ?_) rfl (by kernel_rfl) (by kernel_rfl) (by kernel_rfl) (fun _ _ _ h => h) ⟨by rfl, ?_⟩ ?_
  rotate_left
  · intro X hI; go_simp; try go_bits
    try rw [if_pos (by omega)]
    try with_reducible rfl
  refine wpI_take (i := 2) (v := ?_) rfl (by kernel_rfl) (by kernel_rfl) (by kernel_rfl) (fun _ _ _ h => h) ⟨by rfl, ?_⟩ ?_
  rotate_left
  · intro X hI; go_simp; try go_bits
    try rw [if_pos (by omega)]
    try with_reducible rfl
  refine wpI_take (i := 3) (v := ?_) rfl (by kernel_rfl) (by kernel_rfl) (by kernel_rfl) (fun _ _ _ h => h) ⟨by rfl, ?_⟩ ?_
  rotate_left
  · intro X hI; go_simp; try go_bits
    try rw [if_pos (by omega)]
    try with_reducible rfl
  refine wpI_take (i := 4) (v := ?_) rfl (by kernel_rfl) (by kernel_rfl) (by kernel_rfl) (fun _ _ _ h => h) ⟨by rfl, ?_⟩ ?_
  rotate_left
  · intro X hI; obtain ⟨q1, q2⟩ := hI; go_simp; try go_bits
    try rw [if_pos (by omega)]
    try with_reducible rfl
  refine wpI_take (i := 5) (v := ?_) rfl (by kernel_rfl) (by kernel_rfl) (by kernel_rfl) (fun _ _ _ h => h) ⟨by rfl, ?_⟩ ?_
  rotate_left
  · intro X hI; go_simp; try go_bits
    try rw [if_pos (by omega)]
    try with_reducible rfl
  refine wpI_take (i := 6) (v := ?_) rfl (by kernel_rfl) (by kernel_rfl) (by kernel_rfl) (fun _ _ _ h => h) ⟨by rfl, ?_⟩ ?_
  rotate_left
  · intro X hI; go_simp; try go_bits
    try rw [if_pos (by omega)]
    try with_reducible rfl
  refine wpI_take (i := 7) (v := ?_) rfl (by kernel_rfl) (by kernel_rfl) (by kernel_rfl) (fun _ _ _ h => h) ⟨by rfl, ?_⟩ ?_
  rotate_left
  · intro X hI; go_simp; try go_bits
    try rw [if_pos (by omega)]
    try with_reducible rfl
  refine wpI_take (i := 8) (v := ?_) rfl (by kernel_rfl) (by kernel_rfl) (by kernel_rfl) (fun _ _ _ h => h) ⟨by rfl, ?_⟩ ?_
  rotate_left
  · intro X hI; go_simp; try go_bits
    try rw [if_pos (by omega)]
    try with_reducible rfl
  refine wpI_take (i := 9) (v := ?_) rfl (by kernel_rfl) (by kernel_rfl) (by kernel_rfl) (fun _ _ _ h => h) ⟨by rfl, ?_⟩ ?_
  rotate_left
  · intro X hI; go_simp; try go_bits
    try rw [if_pos (by omega)]
    try with_reducible rfl
  refine wpI_take (i := 10) (v := ?_) rfl (by kernel_rfl) (by kernel_rfl) (by kernel_rfl) (fun _ _ _ h => h) ⟨by rfl, ?_⟩ ?_
  rotate_left
  · intro X hI; go_simp; try go_bits
    try rw [if_pos (by omega)]
    try with_reducible rfl
  refine wpI_take (i := 11) (v := ?_) rfl (by kernel_rfl) (by kernel_rfl) (by kernel_rfl) (fun _ _ _ h => h) ⟨by rfl, ?_⟩ ?_
  rotate_left
  · intro X hI; obtain ⟨q1, q2⟩ := hI; go_simp; try go_bits
    try rw [if_pos (by omega)]
    try with_reducible rfl
  refine wpI_take (i := 12) (v := ?_) rfl (by kernel_rfl) (by kernel_rfl) (by kernel_rfl) (fun _ _ _ h => h) ⟨by rfl, ?_⟩ ?_
  rotate_left
  · intro X hI; go_simp; try go_bits
    try rw [if_pos (by omega)]
    try with_reducible rfl
  refine wpI_take (i := 13) (v := ?_) rfl (by kernel_rfl) (by kernel_rfl) (by kernel_rfl) (fun _ _ _ h => h) ⟨by rfl, ?_⟩ ?_
  rotate_left
  · intro X hI; go_simp; try go_bits
    try rw [if_pos (by omega)]
    try with_reducible rfl
  refine wpI_take (i := 14) (v := ?_) rfl (by kernel_rfl) (by kernel_rfl) (by kernel_rfl) (fun _ _ _ h => h) ⟨by rfl, ?_⟩ ?_
  rotate_left
  · intro X hI; go_simp; try go_bits
    try rw [if_pos (by omega)]
    try with_reducible rfl
  refine wpI_take (i := 15) (v := ?_) rfl (by kernel_rfl) (by kernel_rfl) (by kernel_rfl) (fun _ _ _ h => h) ⟨by rfl, ?_⟩ ?_
  rotate_left
  · intro X hI; go_simp; try go_bits
    try rw [if_pos (by omega)]
    try with_reducible rfl
  refine wpI_take (i := 16) (v := ?_) rfl (by kernel_rfl) (by kernel_rfl) (by kernel_rfl) (fun _ _ _ h => h) ⟨by rfl, ?_⟩ ?_
  rotate_left
  · intro X hI; go_simp; try go_bits
    try rw [if_pos (by omega)]
    try with_reducible rfl
  refine wpI_take (i := 17) (v := ?_) rfl (by kernel_rfl) (by kernel_rfl) (by kernel_rfl) (fun _ _ _ h => h) ⟨by rfl, ?_⟩ ?_
  rotate_left
  · intro X hI; go_simp; try go_bits
    try rw [if_pos (by omega)]
    try with_reducible rfl
  refine wpI_take (i := 18) (v := ?_) rfl (by kernel_rfl) (by kernel_rfl) (by kernel_rfl) (fun _ _ _ h => h) ⟨by rfl, ?_⟩ ?_
  rotate_left
  · intro X hI; obtain ⟨q1, q2⟩ := hI; go_simp; try go_bits
    try rw [if_pos (by omega)]
    try with_reducible rfl
  refine wpI_take (i := 19) (v := ?_) rfl (by kernel_rfl) (by kernel_rfl) (by kernel_rfl) (fun _ _ _ h => h) ⟨by rfl, ?_⟩ ?_
  rotate_left
  · intro X hI; go_simp; try go_bits
    try rw [if_pos (by omega)]
    try with_reducible rfl
  refine wpI_take (i := 20) (v := ?_) rfl (by kernel_rfl) (by kernel_rfl) (by kernel_rfl) (fun _ _ _ h => h) ⟨by rfl, ?_⟩ ?_
  rotate_left
  · intro X hI; go_simp; try go_bits
    try rw [if_pos (by omega)]
    try with_reducible rfl
  refine wpI_take (i := 21) (v := ?_) rfl (by kernel_rfl) (by kernel_rfl) (by kernel_rfl) (fun _ _ _ h => h) ⟨by rfl, ?_⟩ ?_
  rotate_left
  · intro X hI; go_simp; try go_bits
    try rw [if_pos (by omega)]
    try with_reducible rfl
  refine wpI_take (i := 22) (v := ?_) rfl (by kernel_rfl) (by kernel_rfl) (by kernel_rfl) (fun _ _ _ h => h) ⟨by rfl, ?_⟩ ?_
  rotate_left
  · intro X hI; go_simp; try go_bits
    try rw [if_pos (by omega)]
    try with_reducible rfl
  refine wpI_take (i := 23) (v := ?_) rfl (by kernel_rfl) (by kernel_rfl) (by kernel_rfl) (fun _ _ _ h => h) ⟨by rfl, ?_⟩ ?_
  rotate_left
  · intro X hI; go_simp; try go_bits
    try rw [if_pos (by omega)]
    try with_reducible rfl
  refine wpI_done ⟨c1, c2⟩ (by kernel_rfl) ?_ _
  clear iS iL iO
  obtain ⟨h0, h1, h2, h3⟩ := h
  subst h0
  have iS : Hid (∀ w, Calls Tryd.prog 56 #[.int .i64 ((X1 : Int) + 1)] w fun e w' => e = .returned (.bool true) ∧ w' = w) := fun w => by
    have := size_any ((X1 : Int) + 1) w
    rw [decide_eq_true (by omega)] at this
    exact this
  have iL : Hid (∀ w, Calls Tryd.prog 44 #[.int .i64 (k : Int)] w fun e w' => e = .returned (.bool true) ∧ w' = w) := fun w => by
    have := low_any (k : Int) w
    rw [decide_eq_true (by omega)] at this
    exact this
  have iO : Hid (∀ w, Calls Tryd.prog 85 #[.int .i64 (o : Int)] w fun e w' => e = .returned (.bool true) ∧ w' = w) := fun w => by
    have := ord_any (o : Int) w
    rw [decide_eq_true (by omega)] at this
    exact this
  go_upto_region 4 with (first | (go_at_call 56; (with_reducible refine (iS.out _).mono ?_); rintro e w' ⟨rfl, hw⟩; obtain rfl := hw.symm) | (go_at_call 44; (with_reducible refine (iL.out _).mono ?_); rintro e w' ⟨rfl, hw⟩; obtain rfl := hw.symm) | (go_at_call 85; (with_reducible refine (iO.out _).mono ?_); rintro e w' ⟨rfl, hw⟩; obtain rfl := hw.symm) | (go_at_call 84; (with_reducible refine (need_yes 2 _).mono ?_); rintro e w' ⟨rfl, hw⟩; obtain rfl := hw.symm))
  clear iS iL iO
  obtain ⟨m, hm⟩ : ∃ m, m = n - (a + 3) := ⟨_, rfl⟩
  have hm2 : m ≤ 1048576 := by omega
  have e8 : (X1 : Int) + 1 = ((X1 + 1 : Nat) : Int) := by omega
  have ha' : a' ≤ 8 * m := by have := (rdn_told _ HRN.out).2.1; rw [← hm] at this; exact this
  have NU : Hid (∀ W G Bx v', Rdb W G Bx v' (8 * m) 0 (bob (fun i => y (a + 3 + i))) → Calls Tryd.prog 52 #[.pointer (some ⟨G, 0, none⟩), .int .i64 (k : Int), .int .i64 ((X1 : Int) + 1)] W fun e w' => ∃ ua uc, e = .returned (.slice ua R.length uc) ∧ w'.ownsRow W.heap.size 3 1 (.slice ua R.length uc) R.length (ils (lf R) R.length) ∧ Rdb w' G Bx v' (8 * m) a' (bob (fun i => y (a + 3 + i))) ∧ Keep G W w') := fun W G Bx v' hR => by
    rw [e8]
    refine (bnumbers_any hR (fun i _ => bob_bit _ i) (by omega) (by omega) (by omega)).mono ?_
    rintro e w' (⟨R2, a2, u, q1, rfl, q3, q4, q5⟩ | ⟨q1, _⟩)
    · rw [hm, HRN.out] at q1
      injection q1 with q1
      injection q1 with f1 f2
      subst f1 f2
      obtain ⟨ua, uc, rfl⟩ := own_slice3 q3
      exact ⟨ua, uc, rfl, q3, q4, q5⟩
    · rw [hm, HRN.out] at q1; cases q1
  have PP : Hid (∀ W, Calls Tryd.prog 57 #[.int .i64 (a' : Int), .int .i64 8] W fun e w' => e = .returned (.int .i64 (((a' + 7) / 8 : Nat) : Int)) ∧ w' = W) := fun W => pieces8_any (by omega) W
  obtain ⟨E, hE2⟩ : ∃ E, E = (a' + 7) / 8 := ⟨_, rfl⟩
  rw [← hE2] at PP hE
  have hE3 : E ≤ m := by omega
  clear hE2
  clear e8
  have HYM : Hid (∀ i, i < m → 0 ≤ y (a + 3 + i) ∧ y (a + 3 + i) < 256) := fun i hi => HY.out _ (by omega)
  rw [← hm] at HC
  by_cases hcp : cap = a + 3
  · have BM : Bl w (.slice (some ⟨bb, off, none⟩) m 0) m (fun i => y (a + 3 + i)) := ⟨_, _, rfl, by omega, fun h => absurd h (by omega)⟩
    have hm0 : n - (a + 3) = m := hm.symm
    have HM : Hid (m = n - (a + 3)) := hm
    clear hm
    have RD : Hid (∀ W, Below w.heap.size w W → W.heap.size = w.heap.size → Calls Tryd.prog 86 #[.slice (some ⟨bb, off, none⟩) m 0] W fun e w' => e = .returned (.pointer (some ⟨w.heap.size + 1, 0, none⟩)) ∧ Rdb w' (w.heap.size + 1) w.heap.size (.slice (some ⟨bb, off, none⟩) m 0) (8 * m) 0 (bob (fun i => y (a + 3 + i))) ∧ Below w.heap.size w w' ∧ w'.heap.size = w.heap.size + 2) := fun W hW hs => by
      have := breader_any (BM.below hW) HYM.out (by omega)
      rw [hs] at this
      refine this.mono ?_
      rintro e w' ⟨h1, h2, h3, h4⟩
      exact ⟨h1, h2, ⟨h3.os.trans hW.os, h3.tape.trans hW.tape, h3.output.trans hW.output, Nat.le_trans hW.size h3.size, fun k hk => (h3.block k hk).trans (hW.block k hk)⟩, h4⟩
    clear BM
    go_wp2_with (first
      | (go_at_call 86; (with_reducible refine (RD.out _ ?bel ?sz).mono ?_); (case sz => rfl); (case bel => first | exact Below.refl _ _ | exact (Below.refl _ _).drew | exact (Below.refl _ _).drew.drew); rintro e W2 ⟨rfl, hr, hb, hs⟩; have HR2 : Hid (Rdb W2 _ _ _ _ _ _) := hr; have HB2 : Hid (Below _ _ W2) := hb; have s2 := hs; clear hr hb hs)
      | (go_at_call 52; (with_reducible refine (NU.out _ _ _ _ HR2.out).mono ?_); rintro e W3 ⟨ua, uc, rfl, q3, q4, q5⟩; have HK3 : Hid (Keep _ W2 W3) := q5; have HO3 : Hid (W3.ownsRow _ _ _ _ _ _) := q3; have HR3 : Hid (Rdb W3 _ _ _ _ _ _) := q4; have cat := q4.c2; clear q3 q4 q5)
      | (go_at_call 57; (with_reducible refine (PP.out _).mono ?_); rintro e w' ⟨rfl, hw⟩; obtain rfl := hw.symm)
      | (go_at_call 84; (try rw [decide_eq_false (show ¬ (2 : Int) ≤ (n : Int) - ((a : Int) + 3 + (E : Int)) by omega)]); (with_reducible refine (need_no 1 _).mono ?_); rintro e w' ⟨rfl, hw⟩; obtain rfl := hw.symm))
    exact ⟨rfl, rfl, by first | exact Below.keep HB2.out HK3.out (by omega) | exact (Below.keep HB2.out HK3.out (by omega)).drew⟩
  · have BM : Bl w (.slice (some ⟨bb, off + (a + 3), none⟩) m (cap - (a + 3))) m (fun i => y (a + 3 + i)) := ⟨_, _, rfl, by omega, fun _ => ⟨bb, off + (a + 3), rfl, hlt, HC.out⟩⟩
    have hm0 : n - (a + 3) = m := hm.symm
    have HM : Hid (m = n - (a + 3)) := hm
    clear hm
    have RD : Hid (∀ W, Below w.heap.size w W → W.heap.size = w.heap.size → Calls Tryd.prog 86 #[.slice (some ⟨bb, off + (a + 3), none⟩) m (cap - (a + 3))] W fun e w' => e = .returned (.pointer (some ⟨w.heap.size + 1, 0, none⟩)) ∧ Rdb w' (w.heap.size + 1) w.heap.size (.slice (some ⟨bb, off + (a + 3), none⟩) m (cap - (a + 3))) (8 * m) 0 (bob (fun i => y (a + 3 + i))) ∧ Below w.heap.size w w' ∧ w'.heap.size = w.heap.size + 2) := fun W hW hs => by
      have := breader_any (BM.below hW) HYM.out (by omega)
      rw [hs] at this
      refine this.mono ?_
      rintro e w' ⟨h1, h2, h3, h4⟩
      exact ⟨h1, h2, ⟨h3.os.trans hW.os, h3.tape.trans hW.tape, h3.output.trans hW.output, Nat.le_trans hW.size h3.size, fun k hk => (h3.block k hk).trans (hW.block k hk)⟩, h4⟩
    clear BM
    go_wp2_with (first
      | (go_at_call 86; (with_reducible refine (RD.out _ ?bel ?sz).mono ?_); (case sz => rfl); (case bel => first | exact Below.refl _ _ | exact (Below.refl _ _).drew | exact (Below.refl _ _).drew.drew); rintro e W2 ⟨rfl, hr, hb, hs⟩; have HR2 : Hid (Rdb W2 _ _ _ _ _ _) := hr; have HB2 : Hid (Below _ _ W2) := hb; have s2 := hs; clear hr hb hs)
      | (go_at_call 52; (with_reducible refine (NU.out _ _ _ _ HR2.out).mono ?_); rintro e W3 ⟨ua, uc, rfl, q3, q4, q5⟩; have HK3 : Hid (Keep _ W2 W3) := q5; have HO3 : Hid (W3.ownsRow _ _ _ _ _ _) := q3; have HR3 : Hid (Rdb W3 _ _ _ _ _ _) := q4; have cat := q4.c2; clear q3 q4 q5)
      | (go_at_call 57; (with_reducible refine (PP.out _).mono ?_); rintro e w' ⟨rfl, hw⟩; obtain rfl := hw.symm)
      | (go_at_call 84; (try rw [decide_eq_false (show ¬ (2 : Int) ≤ (n : Int) - ((a : Int) + 3 + (E : Int)) by omega)]); (with_reducible refine (need_no 1 _).mono ?_); rintro e w' ⟨rfl, hw⟩; obtain rfl := hw.symm))
    exact ⟨rfl, rfl, by first | exact Below.keep HB2.out HK3.out (by omega) | exact (Below.keep HB2.out HK3.out (by omega)).drew⟩
end Go.Proofs.YtndagpompioooaaDoor

namespace Go.Proofs.YtndagpompioooaaDoor
open Go.RowKit

set_option maxRecDepth 20000 in
set_option maxHeartbeats 8000000 in
theorem rf_check {w : World} {v : Value} {n a X0 X1 X2 a' : Nat} {R : List Int} {y : Nat → Int} (hv : Bl w v n y) (hy : Byt n y) (hn : n ≤ 1048576) (ha : a + 3 ≤ n) (e0 : y a = (X0 : Int)) (e1 : y (a + 1) = (X1 : Int)) (e2 : y (a + 2) = (X2 : Int)) (b0 : X0 < 256) (b1 : X1 < 256) (b2 : X2 < 256) (h : X0 = 70 ∧ X1 + 1 ≤ 128 ∧ X2 % 32 ≤ 30 ∧ X2 / 32 ≤ 3) (hr : rdn (bob (fun i => y (a + 3 + i))) (8 * (n - (a + 3))) (X2 % 32) (X1 + 1) = some (R, a')) {en Y0 Y1 : Nat} (hE : en = a + 3 + (a' + 7) / 8) (hE5 : en + 2 ≤ n) (eY0 : y en = (Y0 : Int)) (eY1 : y (en + 1) = (Y1 : Int)) (bY0 : Y0 < 256) (bY1 : Y1 < 256) (hck : crv (en - a) (fun i => y (a + i)) ≠ (Y0 : Int) * 256 + (Y1 : Int)) :
    Calls Tryd.prog 70 #[v, .int .i64 (a : Int)] w fun e w' => e = pan 4 ∧ Below w.heap.size w w' := by
  obtain ⟨ao, cap, rfl, hcap, hc⟩ := hv
  obtain ⟨bb, off, rfl, hlt, hcell⟩ := hc (by omega)
  have c0 := hcell a (by omega)
  have c1 := hcell (a + 1) (by omega)
  have c2 := hcell (a + 2) (by omega)
  rw [e0] at c0
  rw [e1] at c1
  rw [e2] at c2
  have HC : Hid (∀ i, i < n - (a + 3) → w.cell? ⟨bb, off + (a + 3) + i, none⟩ = some (.int .u8 (y (a + 3 + i)))) := fun i hi => by have := hcell (a + 3 + i) (by omega); rw [show off + (a + 3 + i) = off + (a + 3) + i by omega] at this; exact this
  have HY : Hid (Byt n y) := hy
  have cE := hcell en (by omega)
  have cE1 := hcell (en + 1) (by omega)
  rw [eY0] at cE
  rw [eY1] at cE1
  have CRC : Hid (∀ X, Below w.heap.size w X → Calls Tryd.prog 63 #[.slice (some ⟨bb, off + a, none⟩) (en - a) (cap - a)] X fun e w' => e = .returned (.int .i64 (crv (en - a) (fun i => y (a + i)))) ∧ w' = X) := fun X hX => iCrc_any (n := en - a) ⟨_, _, rfl, by omega, fun _ => ⟨bb, off + a, rfl, Nat.lt_of_lt_of_le hlt hX.size, fun i hi => by have := hcell (a + i) (by omega); rw [show off + (a + i) = off + a + i by omega] at this; exact (hX.cell (p := ⟨bb, off + a + i, none⟩) hlt).trans this⟩⟩ (fun i hi => hy _ (by omega)) (by omega)
  obtain ⟨cc, hcc⟩ : ∃ cc, cc = crv (en - a) (fun i => y (a + i)) := ⟨_, rfl⟩
  rw [← hcc] at CRC hck
  clear hcc eY0 eY1
  have HE : Hid (w.cell? ⟨bb, off + en, none⟩ = some (.int .u8 (Y0 : Int)) ∧ w.cell? ⟨bb, off + (en + 1), none⟩ = some (.int .u8 (Y1 : Int))) := ⟨cE, cE1⟩
  clear hcell hc e0 e1 e2 hy cE cE1
  have d1 : (X2 : Int).tdiv 32 = ((X2 / 32 : Nat) : Int) := by rw [Int.tdiv_eq_ediv_of_nonneg (by omega)]; omega
  have d2 : (X2 : Int).tmod 32 = ((X2 % 32 : Nat) : Int) := by rw [Int.tmod_eq_emod_of_nonneg (by omega)]; omega
  have d3 : (X2 : Int) / 32 = ((X2 / 32 : Nat) : Int) := by omega
  have d4 : (X2 : Int) % 32 = ((X2 % 32 : Nat) : Int) := by omega
  obtain ⟨o, ho⟩ : ∃ o, o = X2 / 32 := ⟨_, rfl⟩
  obtain ⟨k, hk⟩ : ∃ k, k = X2 % 32 := ⟨_, rfl⟩
  rw [← ho] at d1 d3 h
  rw [← hk] at d2 d4 h
  have bo : o ≤ 7 := by omega
  have bk : k ≤ 31 := by omega
  rw [← hk] at hr
  have HRN : Hid _ := hr
  clear ho hk hr
  have iS := size_any ((X1 : Int) + 1)
  have iL := low_any (k : Int)
  have iO := ord_any (o : Int)
  have g1 : (3 : Int) ≤ (n : Int) - (a : Int) := by omega
  go_enter Tryd.func70, Tryd.ntmps70
  go_wp2_with (go_at_call 84; (try rw [decide_eq_true (show (3 : Int) ≤ (n : Int) - (a : Int) by omega)]); (with_reducible refine (need_yes 1 _).mono ?_); rintro e w' ⟨rfl, hw⟩; obtain rfl := hw.symm)
  refine wp_region_any (by kernel_rfl) ?_
  change wpAny _ _ _ _ _ _ _ (World.drew _)
  refine wpI_any (I := fun X => X.cell? ⟨bb, off + (a + 1), none⟩ = some (.int .u8 (X1 : Int)) ∧ X.cell? ⟨bb, off + (a + 2), none⟩ = some (.int .u8 (X2 : Int))) _ _ _ _ ?_
  refine wpI_take (i := 0) (v := ?_) rfl (by kernel_rfl) (by kernel_rfl) (by kernel_rfl) (fun _ _ _ h => h) ⟨by rfl, ?_⟩ ?_
  rotate_left
  · intro X hI; go_simp; try go_bits
    try rw [if_pos (by omega)]
    try with_reducible rfl
  refine wpI_take (i := 1) (v := ?_) rfl (by kernel_rfl) (by kernel_rfl) (by kernel_rfl) (fun _ _ _ h => h) ⟨by rfl, ?_⟩ ?_
  rotate_left
  · intro X hI; go_simp; try go_bits
    try rw [if_pos (by omega)]
    try with_reducible rfl
  refine wpI_take (i := 2) (v := ?_) rfl (by kernel_rfl) (by kernel_rfl) (by kernel_rfl) (fun _ _ _ h => h) ⟨by rfl, ?_⟩ ?_
  rotate_left
  · intro X hI; go_simp; try go_bits
    try rw [if_pos (by omega)]
    try with_reducible rfl
  refine wpI_take (i := 3) (v := ?_) rfl (by kernel_rfl) (by kernel_rfl) (by kernel_rfl) (fun _ _ _ h => h) ⟨by rfl, ?_⟩ ?_
  rotate_left
  · intro X hI; go_simp; try go_bits
    try rw [if_pos (by omega)]
    try with_reducible rfl
  refine wpI_take (i := 4) (v := ?_) rfl (by kernel_rfl) (by kernel_rfl) (by kernel_rfl) (fun _ _ _ h => h) ⟨by rfl, ?_⟩ ?_
  rotate_left
  · intro X hI; obtain ⟨q1, q2⟩ := hI; go_simp; try go_bits
    try rw [if_pos (by omega)]
    try with_reducible rfl
  refine wpI_take (i := 5) (v := ?_) rfl (by kernel_rfl) (by kernel_rfl) (by kernel_rfl) (fun _ _ _ h => h) ⟨by rfl, ?_⟩ ?_
  rotate_left
  · intro X hI; go_simp; try go_bits
    try rw [if_pos (by omega)]
    try with_reducible rfl
  refine wpI_take (i := 6) (v := ?_) rfl (by kernel_rfl) (by kernel_rfl) (by kernel_rfl) (fun _ _ _ h => h) ⟨by rfl, ?_⟩ ?_
  rotate_left
  · intro X hI; go_simp; try go_bits
    try rw [if_pos (by omega)]
    try with_reducible rfl
  refine wpI_take (i := 7) (v := ?_) rfl (by kernel_rfl) (by kernel_rfl) (by kernel_rfl) (fun _ _ _ h => h) ⟨by rfl, ?_⟩ ?_
  rotate_left
  · intro X hI; go_simp; try go_bits
    try rw [if_pos (by omega)]
    try with_reducible rfl
  refine wpI_take (i := 8) (v := ?_) rfl (by kernel_rfl) (by kernel_rfl) (by kernel_rfl) (fun _ _ _ h => h) ⟨by rfl, ?_⟩ ?_
  rotate_left
  · intro X hI; go_simp; try go_bits
    try rw [if_pos (by omega)]
    try with_reducible rfl
  refine wpI_take (i := 9) (v := ?_) rfl (by kernel_rfl) (by kernel_rfl) (by kernel_rfl) (fun _ _ _ h => h) ⟨by rfl, ?_⟩ ?_
  rotate_left
  · intro X hI; go_simp; try go_bits
    try rw [if_pos (by omega)]
    try with_reducible rfl
  refine wpI_take (i := 10) (v := ?_) rfl (by kernel_rfl) (by kernel_rfl) (by kernel_rfl) (fun _ _ _ h => h) ⟨by rfl, ?_⟩ ?_
  rotate_left
  · intro X hI; go_simp; try go_bits
    try rw [if_pos (by omega)]
    try with_reducible rfl
  refine wpI_take (i := 11) (v := ?_) rfl (by kernel_rfl) (by kernel_rfl) (by kernel_rfl) (fun _ _ _ h => h) ⟨by rfl, ?_⟩ ?_
  rotate_left
  · intro X hI; obtain ⟨q1, q2⟩ := hI; go_simp; try go_bits
    try rw [if_pos (by omega)]
    try with_reducible rfl
  refine wpI_take (i := 12) (v := ?_) rfl (by kernel_rfl) (by kernel_rfl) (by kernel_rfl) (fun _ _ _ h => h) ⟨by rfl, ?_⟩ ?_
  rotate_left
  · intro X hI; go_simp; try go_bits
    try rw [if_pos (by omega)]
    try with_reducible rfl
  refine wpI_take (i := 13) (v := ?_) rfl (by kernel_rfl) (by kernel_rfl) (by kernel_rfl) (fun _ _ _ h => h) ⟨by rfl, ?_⟩ ?_
  rotate_left
  · intro X hI; go_simp; try go_bits
    try rw [if_pos (by omega)]
    try with_reducible rfl
  refine wpI_take (i := 14) (v := ?_) rfl (by kernel_rfl) (by kernel_rfl) (by kernel_rfl) (fun _ _ _ h => h) ⟨by rfl, ?_⟩ ?_
  rotate_left
  · intro X hI; go_simp; try go_bits
    try rw [if_pos (by omega)]
    try with_reducible rfl
  refine wpI_take (i := 15) (v := ?_) rfl (by kernel_rfl) (by kernel_rfl) (by kernel_rfl) (fun _ _ _ h => h) ⟨by rfl, ?_⟩ ?_
  rotate_left
  · intro X hI; go_simp; try go_bits
    try rw [if_pos (by omega)]
    try with_reducible rfl
  refine wpI_take (i := 16) (v := ?_) rfl (by kernel_rfl) (by kernel_rfl) (by kernel_rfl) (fun _ _ _ h => h) ⟨by rfl, ?_⟩ ?_
  rotate_left
  · intro X hI; go_simp; try go_bits
    try rw [if_pos (by omega)]
    try with_reducible rfl
  refine wpI_take (i := 17) (v := ?_) rfl (by kernel_rfl) (by kernel_rfl) (by kernel_rfl) (fun _ _ _ h => h) ⟨by rfl, ?_⟩ ?_
  rotate_left
  · intro X hI; go_simp; try go_bits
    try rw [if_pos (by omega)]
    try with_reducible rfl
  refine wpI_take (i := 18) (v := ?_) rfl (by kernel_rfl) (by kernel_rfl) (by kernel_rfl) (fun _ _ _ h => h) ⟨by rfl, ?_⟩ ?_
  rotate_left
  · intro X hI; obtain ⟨q1, q2⟩ := hI; go_simp; try go_bits
    try rw [if_pos (by omega)]
    try with_reducible rfl
  refine wpI_take (i := 19) (v := ?_) rfl (by kernel_rfl) (by kernel_rfl) (by kernel_rfl) (fun _ _ _ h => h) ⟨by rfl, ?_⟩ ?_
  rotate_left
  · intro X hI; go_simp; try go_bits
    try rw [if_pos (by omega)]
    try with_reducible rfl
  refine wpI_take (i := 20) (v := ?_) rfl (by kernel_rfl) (by kernel_rfl) (by kernel_rfl) (fun _ _ _ h => h) ⟨by rfl, ?_⟩ ?_
  rotate_left
  · intro X hI; go_simp; try go_bits
    try rw [if_pos (by omega)]
    try with_reducible rfl
  refine wpI_take (i := 21) (v := ?_) rfl (by kernel_rfl) (by kernel_rfl) (by kernel_rfl) (fun _ _ _ h => h) ⟨by rfl, ?_⟩ ?_
  rotate_left
  · intro X hI; go_simp; try go_bits
    try rw [if_pos (by omega)]
    try with_reducible rfl
  refine wpI_take (i := 22) (v := ?_) rfl (by kernel_rfl) (by kernel_rfl) (by kernel_rfl) (fun _ _ _ h => h) ⟨by rfl, ?_⟩ ?_
  rotate_left
  · intro X hI; go_simp; try go_bits
    try rw [if_pos (by omega)]
    try with_reducible rfl
  refine wpI_take (i := 23) (v := ?_) rfl (by kernel_rfl) (by kernel_rfl) (by kernel_rfl) (fun _ _ _ h => h) ⟨by rfl, ?_⟩ ?_
  rotate_left
  · intro X hI; go_simp; try go_bits
    try rw [if_pos (by omega)]
    try with_reducible rfl
  refine wpI_done ⟨c1, c2⟩ (by kernel_rfl) ?_ _
  clear iS iL iO
  obtain ⟨h0, h1, h2, h3⟩ := h
  subst h0
  have iS : Hid (∀ w, Calls Tryd.prog 56 #[.int .i64 ((X1 : Int) + 1)] w fun e w' => e = .returned (.bool true) ∧ w' = w) := fun w => by
    have := size_any ((X1 : Int) + 1) w
    rw [decide_eq_true (by omega)] at this
    exact this
  have iL : Hid (∀ w, Calls Tryd.prog 44 #[.int .i64 (k : Int)] w fun e w' => e = .returned (.bool true) ∧ w' = w) := fun w => by
    have := low_any (k : Int) w
    rw [decide_eq_true (by omega)] at this
    exact this
  have iO : Hid (∀ w, Calls Tryd.prog 85 #[.int .i64 (o : Int)] w fun e w' => e = .returned (.bool true) ∧ w' = w) := fun w => by
    have := ord_any (o : Int) w
    rw [decide_eq_true (by omega)] at this
    exact this
  go_upto_region 4 with (first | (go_at_call 56; (with_reducible refine (iS.out _).mono ?_); rintro e w' ⟨rfl, hw⟩; obtain rfl := hw.symm) | (go_at_call 44; (with_reducible refine (iL.out _).mono ?_); rintro e w' ⟨rfl, hw⟩; obtain rfl := hw.symm) | (go_at_call 85; (with_reducible refine (iO.out _).mono ?_); rintro e w' ⟨rfl, hw⟩; obtain rfl := hw.symm) | (go_at_call 84; (with_reducible refine (need_yes 2 _).mono ?_); rintro e w' ⟨rfl, hw⟩; obtain rfl := hw.symm))
  clear iS iL iO
  obtain ⟨m, hm⟩ : ∃ m, m = n - (a + 3) := ⟨_, rfl⟩
  have hm2 : m ≤ 1048576 := by omega
  have e8 : (X1 : Int) + 1 = ((X1 + 1 : Nat) : Int) := by omega
  have ha' : a' ≤ 8 * m := by have := (rdn_told _ HRN.out).2.1; rw [← hm] at this; exact this
  have NU : Hid (∀ W G Bx v', Rdb W G Bx v' (8 * m) 0 (bob (fun i => y (a + 3 + i))) → Calls Tryd.prog 52 #[.pointer (some ⟨G, 0, none⟩), .int .i64 (k : Int), .int .i64 ((X1 : Int) + 1)] W fun e w' => ∃ ua uc, e = .returned (.slice ua R.length uc) ∧ w'.ownsRow W.heap.size 3 1 (.slice ua R.length uc) R.length (ils (lf R) R.length) ∧ Rdb w' G Bx v' (8 * m) a' (bob (fun i => y (a + 3 + i))) ∧ Keep G W w') := fun W G Bx v' hR => by
    rw [e8]
    refine (bnumbers_any hR (fun i _ => bob_bit _ i) (by omega) (by omega) (by omega)).mono ?_
    rintro e w' (⟨R2, a2, u, q1, rfl, q3, q4, q5⟩ | ⟨q1, _⟩)
    · rw [hm, HRN.out] at q1
      injection q1 with q1
      injection q1 with f1 f2
      subst f1 f2
      obtain ⟨ua, uc, rfl⟩ := own_slice3 q3
      exact ⟨ua, uc, rfl, q3, q4, q5⟩
    · rw [hm, HRN.out] at q1; cases q1
  have PP : Hid (∀ W, Calls Tryd.prog 57 #[.int .i64 (a' : Int), .int .i64 8] W fun e w' => e = .returned (.int .i64 (((a' + 7) / 8 : Nat) : Int)) ∧ w' = W) := fun W => pieces8_any (by omega) W
  obtain ⟨E, hE2⟩ : ∃ E, E = (a' + 7) / 8 := ⟨_, rfl⟩
  rw [← hE2] at PP hE
  have hE3 : E ≤ m := by omega
  have eE : (a : Int) + 3 + (E : Int) = (en : Int) := by omega
  have hen : a + 3 ≤ en := by omega
  have hca : ¬ cap = a := by omega
  have hae : a ≤ en := by omega
  clear hE
  clear hE2
  clear e8
  have HYM : Hid (∀ i, i < m → 0 ≤ y (a + 3 + i) ∧ y (a + 3 + i) < 256) := fun i hi => HY.out _ (by omega)
  rw [← hm] at HC
  by_cases hcp : cap = a + 3
  · exact absurd hcp (by omega)
  · have BM : Bl w (.slice (some ⟨bb, off + (a + 3), none⟩) m (cap - (a + 3))) m (fun i => y (a + 3 + i)) := ⟨_, _, rfl, by omega, fun _ => ⟨bb, off + (a + 3), rfl, hlt, HC.out⟩⟩
    have hm0 : n - (a + 3) = m := hm.symm
    have HM : Hid (m = n - (a + 3)) := hm
    clear hm
    have RD : Hid (∀ W, Below w.heap.size w W → W.heap.size = w.heap.size → Calls Tryd.prog 86 #[.slice (some ⟨bb, off + (a + 3), none⟩) m (cap - (a + 3))] W fun e w' => e = .returned (.pointer (some ⟨w.heap.size + 1, 0, none⟩)) ∧ Rdb w' (w.heap.size + 1) w.heap.size (.slice (some ⟨bb, off + (a + 3), none⟩) m (cap - (a + 3))) (8 * m) 0 (bob (fun i => y (a + 3 + i))) ∧ Below w.heap.size w w' ∧ w'.heap.size = w.heap.size + 2) := fun W hW hs => by
      have := breader_any (BM.below hW) HYM.out (by omega)
      rw [hs] at this
      refine this.mono ?_
      rintro e w' ⟨h1, h2, h3, h4⟩
      exact ⟨h1, h2, ⟨h3.os.trans hW.os, h3.tape.trans hW.tape, h3.output.trans hW.output, Nat.le_trans hW.size h3.size, fun k hk => (h3.block k hk).trans (hW.block k hk)⟩, h4⟩
    clear BM
    go_wp2_with (first
      | (go_at_call 86; (with_reducible refine (RD.out _ ?bel ?sz).mono ?_); (case sz => rfl); (case bel => first | exact Below.refl _ _ | exact (Below.refl _ _).drew | exact (Below.refl _ _).drew.drew); rintro e W2 ⟨rfl, hr, hb, hs⟩; have HR2 : Hid (Rdb W2 _ _ _ _ _ _) := hr; have HB2 : Hid (Below _ _ W2) := hb; have s2 := hs; clear hr hb hs)
      | (go_at_call 52; (with_reducible refine (NU.out _ _ _ _ HR2.out).mono ?_); rintro e W3 ⟨ua, uc, rfl, q3, q4, q5⟩; have HK3 : Hid (Keep _ W2 W3) := q5; have HO3 : Hid (W3.ownsRow _ _ _ _ _ _) := q3; have HR3 : Hid (Rdb W3 _ _ _ _ _ _) := q4; have cat := q4.c2; clear q3 q4 q5)
      | (go_at_call 57; (with_reducible refine (PP.out _).mono ?_); rintro e w' ⟨rfl, hw⟩; obtain rfl := hw.symm)
      | (go_at_call 84; (try rw [decide_eq_true (show (2 : Int) ≤ (n : Int) - (en : Int) by omega)]); (with_reducible refine (need_yes 1 _).mono ?_); rintro e w' ⟨rfl, hw⟩; obtain rfl := hw.symm))
    have B3 : Hid (Below w.heap.size w W3) := Below.keep HB2.out HK3.out (by omega)
    have c8 := (B3.out.cell (p := ⟨bb, off + en, none⟩) hlt).trans HE.out.1
    have c9 := (B3.out.cell (p := ⟨bb, off + (en + 1), none⟩) hlt).trans HE.out.2
    have hne : (cc == (Y0 : Int) * 256 + (Y1 : Int)) = false := by rw [beq_eq_false_iff_ne]; exact hck
    clear hck
    refine wp_region_any (by kernel_rfl) ?_
    change wpAny _ _ _ _ _ _ _ (World.drew _)
    refine wpI_any (I := fun X => X.cell? ⟨bb, off + en, none⟩ = some (.int .u8 (Y0 : Int)) ∧ X.cell? ⟨bb, off + (en + 1), none⟩ = some (.int .u8 (Y1 : Int))) _ _ _ _ ?_
    refine wpI_take (i := 0) (v := ?_) rfl (by kernel_rfl) (by kernel_rfl) (by kernel_rfl) (fun _ _ _ h => h) ⟨by rfl, ?_⟩ ?_
    rotate_left
    · intro X hI; go_simp; try go_bits
      try rw [if_pos (by omega)]
      try with_reducible rfl
    refine wpI_take (i := 1) (v := ?_) rfl (by kernel_rfl) (by kernel_rfl) (by kernel_rfl) (fun _ _ _ h => h) ⟨by rfl, ?_⟩ ?_
    rotate_left
    · intro X hI; go_simp; try go_bits
      try rw [if_pos (by omega)]
      try with_reducible rfl
    refine wpI_take (i := 2) (v := ?_) rfl (by kernel_rfl) (by kernel_rfl) (by kernel_rfl) (fun _ _ _ h => h) ⟨by rfl, ?_⟩ ?_
    rotate_left
    · intro X hI; go_simp; try go_bits
      try rw [if_pos (by omega)]
      try with_reducible rfl
    refine wpI_take (i := 3) (v := ?_) rfl (by kernel_rfl) (by kernel_rfl) (by kernel_rfl) (fun _ _ _ h => h) ⟨by rfl, ?_⟩ ?_
    rotate_left
    · intro X hI; go_simp; try go_bits
      try rw [if_pos (by omega)]
      try with_reducible rfl
    refine wpI_take (i := 5) (v := ?_) rfl (by kernel_rfl) (by kernel_rfl) (by kernel_rfl) (fun _ _ _ h => h) ⟨by rfl, ?_⟩ ?_
    rotate_left
    · intro X hI; go_simp; try go_bits
      try rw [if_pos (by omega)]
      try with_reducible rfl
    refine wpI_take (i := 6) (v := ?_) rfl (by kernel_rfl) (by kernel_rfl) (by kernel_rfl) (fun _ _ _ h => h) ⟨by rfl, ?_⟩ ?_
    rotate_left
    · intro X hI; go_simp; try go_bits
      try rw [if_pos (by omega)]
      try with_reducible rfl
    refine wpI_take (i := 7) (v := ?_) rfl (by kernel_rfl) (by kernel_rfl) (by kernel_rfl) (fun _ _ _ h => h) ⟨by rfl, ?_⟩ ?_
    rotate_left
    · intro X hI; go_simp; try go_bits
      try rw [if_pos (by omega)]
      try with_reducible rfl
    refine wpI_take (i := 8) (v := ?_) rfl (by kernel_rfl) (by kernel_rfl) (by kernel_rfl) (fun _ _ _ h => h) ⟨by rfl, ?_⟩ ?_
    rotate_left
    · intro X hI; obtain ⟨q1, q2⟩ := hI; go_simp; try go_bits
      try rw [if_pos (by omega)]
      try with_reducible rfl
    refine wpI_take (i := 9) (v := ?_) rfl (by kernel_rfl) (by kernel_rfl) (by kernel_rfl) (fun _ _ _ h => h) ⟨by rfl, ?_⟩ ?_
    rotate_left
    · intro X hI; go_simp; try go_bits
      try rw [if_pos (by omega)]
      try with_reducible rfl
    refine wpI_take (i := 10) (v := ?_) rfl (by kernel_rfl) (by kernel_rfl) (by kernel_rfl) (fun _ _ _ h => h) ⟨by rfl, ?_⟩ ?_
    rotate_left
    · intro X hI; go_simp; try go_bits
      try rw [if_pos (by omega)]
      try with_reducible rfl
    refine wpI_take (i := 11) (v := ?_) rfl (by kernel_rfl) (by kernel_rfl) (by kernel_rfl) (fun _ _ _ h => h) ⟨by rfl, ?_⟩ ?_
    rotate_left
    · intro X hI; go_simp; try go_bits
      try rw [if_pos (by omega)]
      try with_reducible rfl
    refine wpI_take (i := 12) (v := ?_) rfl (by kernel_rfl) (by kernel_rfl) (by kernel_rfl) (fun _ _ _ h => h) ⟨by rfl, ?_⟩ ?_
    rotate_left
    · intro X hI; go_simp; try go_bits
      try rw [if_pos (by omega)]
      try with_reducible rfl
    refine wpI_take (i := 13) (v := ?_) rfl (by kernel_rfl) (by kernel_rfl) (by kernel_rfl) (fun _ _ _ h => h) ⟨by rfl, ?_⟩ ?_
    rotate_left
    · intro X hI; go_simp; try go_bits
      try rw [if_pos (by omega)]
      try with_reducible rfl
    refine wpI_take (i := 14) (v := ?_) rfl (by kernel_rfl) (by kernel_rfl) (by kernel_rfl) (fun _ _ _ h => h) ⟨by rfl, ?_⟩ ?_
    rotate_left
    · intro X hI; go_simp; try go_bits
      try rw [if_pos (by omega)]
      try with_reducible rfl
    refine wpI_take (i := 15) (v := ?_) rfl (by kernel_rfl) (by kernel_rfl) (by kernel_rfl) (fun _ _ _ h => h) ⟨by rfl, ?_⟩ ?_
    rotate_left
    · intro X hI; obtain ⟨q1, q2⟩ := hI; go_simp; try go_bits
      try rw [if_pos (by omega)]
      try with_reducible rfl
    refine wpI_take (i := 16) (v := ?_) rfl (by kernel_rfl) (by kernel_rfl) (by kernel_rfl) (fun _ _ _ h => h) ⟨by rfl, ?_⟩ ?_
    rotate_left
    · intro X hI; go_simp; try go_bits
      try rw [if_pos (by omega)]
      try with_reducible rfl
    refine wpI_take (i := 17) (v := ?_) rfl (by kernel_rfl) (by kernel_rfl) (by kernel_rfl) (fun _ _ _ h => h) ⟨by rfl, ?_⟩ ?_
    rotate_left
    · intro X hI; go_simp; try go_bits
      try rw [if_pos (by omega)]
      try with_reducible rfl
    refine wpI_only (i := 4) rfl (by kernel_rfl) ⟨c8, c9⟩ (by rfl) ?_
    intro K hK
    go_simp
    go_wp2_with (go_at_call 63; (with_reducible refine (CRC.out _ ?bel).mono ?_); (case bel => first | exact B3.out | exact B3.out.drew | exact B3.out.drew.drew); rintro e w' ⟨rfl, hw⟩; obtain rfl := hw.symm)
    refine wpI_take (i := 18) (v := ?_) rfl (by kernel_rfl) (by kernel_rfl) (by kernel_rfl) (fun _ _ _ h => h) ⟨by rfl, ?_⟩ ?_
    rotate_left
    · intro X hI; go_simp; try go_bits
      try rw [if_pos (by omega)]
      try with_reducible rfl
    refine wpI_only (i := 19) rfl (by kernel_rfl) ⟨c8, c9⟩ (by rfl) ?_
    intro K hK
    go_simp
    go_wp2_with (go_at_call 84; (with_reducible refine (need_no 4 _).mono ?_); rintro e w' ⟨rfl, hw⟩; obtain rfl := hw.symm)
    exact ⟨rfl, rfl, by first | exact B3.out | exact B3.out.drew | exact B3.out.drew.drew⟩
end Go.Proofs.YtndagpompioooaaDoor

namespace Go.Proofs.YtndagpompioooaaDoor
open Go.RowKit

theorem own_slice5 {w : World} {B n : Nat} {v : Value} {L : List Value} (h : w.ownsRow B 5 1 v n L) : ∃ a c, v = .slice a n c := by
  rcases h.2 with ⟨rfl, rfl⟩ | ⟨g, cap, cur, rfl, _⟩
  · exact ⟨none, 0, rfl⟩
  · exact ⟨_, _, rfl⟩

set_option maxRecDepth 20000 in
set_option maxHeartbeats 8000000 in
theorem rf_last {w : World} {v : Value} {n a X0 X1 X2 a' : Nat} {R : List Int} {y : Nat → Int} (hv : Bl w v n y) (hy : Byt n y) (hn : n ≤ 1048576) (ha : a + 3 ≤ n) (e0 : y a = (X0 : Int)) (e1 : y (a + 1) = (X1 : Int)) (e2 : y (a + 2) = (X2 : Int)) (b0 : X0 < 256) (b1 : X1 < 256) (b2 : X2 < 256) (h : X0 = 70 ∧ X1 + 1 ≤ 128 ∧ X2 % 32 ≤ 30 ∧ X2 / 32 ≤ 3) (hr : rdn (bob (fun i => y (a + 3 + i))) (8 * (n - (a + 3))) (X2 % 32) (X1 + 1) = some (R, a')) {en Y0 Y1 : Nat} (hE : en = a + 3 + (a' + 7) / 8) (hE5 : en + 2 ≤ n) (eY0 : y en = (Y0 : Int)) (eY1 : y (en + 1) = (Y1 : Int)) (bY0 : Y0 < 256) (bY1 : Y1 < 256) (hck : crv (en - a) (fun i => y (a + i)) = (Y0 : Int) * 256 + (Y1 : Int)) {N N2 : Nat} {zs ys : Nat → Int} {A ok Eq : Bool} (hU : ∀ W u, Il W u R.length (lf R) → Calls Tryd.prog 87 #[.int .i64 ((X2 / 32 : Nat) : Int), u] W fun e w' => Pst W w' e N zs A) (hP : ∀ W u, Il W u N zs → Calls Tryd.prog 20 #[u] W fun e w' => Psb W w' e N2 ys ok) (hy2 : Byt N2 ys) (hEq : Eq = decide (N2 = en + 2 - a ∧ ∀ k, k < N2 → ys k = y (a + k))) :
    Calls Tryd.prog 70 #[v, .int .i64 (a : Int)] w fun e w' => (if A && ok && Eq then ∃ u, e = .returned (.tuple #[u, .int .i64 ((en + 2 : Nat) : Int)]) ∧ w'.ownsRow w.heap.size 3 1 u N (ils zs N) else e = pan 5) ∧ Below w.heap.size w w' := by
  obtain ⟨ao, cap, rfl, hcap, hc⟩ := hv
  obtain ⟨bb, off, rfl, hlt, hcell⟩ := hc (by omega)
  have c0 := hcell a (by omega)
  have c1 := hcell (a + 1) (by omega)
  have c2 := hcell (a + 2) (by omega)
  rw [e0] at c0
  rw [e1] at c1
  rw [e2] at c2
  have HC : Hid (∀ i, i < n - (a + 3) → w.cell? ⟨bb, off + (a + 3) + i, none⟩ = some (.int .u8 (y (a + 3 + i)))) := fun i hi => by have := hcell (a + 3 + i) (by omega); rw [show off + (a + 3 + i) = off + (a + 3) + i by omega] at this; exact this
  have HY : Hid (Byt n y) := hy
  have cE := hcell en (by omega)
  have cE1 := hcell (en + 1) (by omega)
  rw [eY0] at cE
  rw [eY1] at cE1
  have CRC : Hid (∀ X, Below w.heap.size w X → Calls Tryd.prog 63 #[.slice (some ⟨bb, off + a, none⟩) (en - a) (cap - a)] X fun e w' => e = .returned (.int .i64 (crv (en - a) (fun i => y (a + i)))) ∧ w' = X) := fun X hX => iCrc_any (n := en - a) ⟨_, _, rfl, by omega, fun _ => ⟨bb, off + a, rfl, Nat.lt_of_lt_of_le hlt hX.size, fun i hi => by have := hcell (a + i) (by omega); rw [show off + (a + i) = off + a + i by omega] at this; exact (hX.cell (p := ⟨bb, off + a + i, none⟩) hlt).trans this⟩⟩ (fun i hi => hy _ (by omega)) (by omega)
  have HQ : Hid (∀ X v5, Below w.heap.size w X → Bl X v5 N2 ys → Calls Tryd.prog 88 #[v5, .slice (some ⟨bb, off + a, none⟩) (en + 2 - a) (cap - a)] X fun e w' => e = .returned (.bool Eq) ∧ w' = X) := fun X v5 hX h5 => by
    rw [hEq]
    exact equal_any h5 ⟨_, _, rfl, by omega, fun _ => ⟨bb, off + a, rfl, Nat.lt_of_lt_of_le hlt hX.size, fun i hi => by have := hcell (a + i) (by omega); rw [show off + (a + i) = off + a + i by omega] at this; exact (hX.cell (p := ⟨bb, off + a + i, none⟩) hlt).trans this⟩⟩ hy2 (fun i hi => hy _ (by omega))
  clear hEq hy2
  obtain ⟨f2, hf2⟩ : ∃ f2, f2 = en + 2 := ⟨_, rfl⟩
  rw [← hf2] at HQ ⊢
  have ef2 : (en : Int) + 2 = (f2 : Int) := by omega
  have haf : a ≤ f2 ∧ f2 ≤ n := by omega
  have haf1 := haf.1
  clear hf2
  obtain ⟨cc, hcc⟩ : ∃ cc, cc = crv (en - a) (fun i => y (a + i)) := ⟨_, rfl⟩
  rw [← hcc] at CRC hck
  clear hcc eY0 eY1
  have HE : Hid (w.cell? ⟨bb, off + en, none⟩ = some (.int .u8 (Y0 : Int)) ∧ w.cell? ⟨bb, off + (en + 1), none⟩ = some (.int .u8 (Y1 : Int))) := ⟨cE, cE1⟩
  clear hcell hc e0 e1 e2 hy cE cE1
  have d1 : (X2 : Int).tdiv 32 = ((X2 / 32 : Nat) : Int) := by rw [Int.tdiv_eq_ediv_of_nonneg (by omega)]; omega
  have d2 : (X2 : Int).tmod 32 = ((X2 % 32 : Nat) : Int) := by rw [Int.tmod_eq_emod_of_nonneg (by omega)]; omega
  have d3 : (X2 : Int) / 32 = ((X2 / 32 : Nat) : Int) := by omega
  have d4 : (X2 : Int) % 32 = ((X2 % 32 : Nat) : Int) := by omega
  obtain ⟨o, ho⟩ : ∃ o, o = X2 / 32 := ⟨_, rfl⟩
  obtain ⟨k, hk⟩ : ∃ k, k = X2 % 32 := ⟨_, rfl⟩
  rw [← ho] at d1 d3 h hU
  have HU : Hid _ := hU
  have HP : Hid _ := hP
  clear hU hP
  rw [← hk] at d2 d4 h
  have bo : o ≤ 7 := by omega
  have bk : k ≤ 31 := by omega
  rw [← hk] at hr
  have HRN : Hid _ := hr
  clear ho hk hr
  have iS := size_any ((X1 : Int) + 1)
  have iL := low_any (k : Int)
  have iO := ord_any (o : Int)
  have g1 : (3 : Int) ≤ (n : Int) - (a : Int) := by omega
  go_enter Tryd.func70, Tryd.ntmps70
  go_wp2_with (go_at_call 84; (try rw [decide_eq_true (show (3 : Int) ≤ (n : Int) - (a : Int) by omega)]); (with_reducible refine (need_yes 1 _).mono ?_); rintro e w' ⟨rfl, hw⟩; obtain rfl := hw.symm)
  refine wp_region_any (by kernel_rfl) ?_
  change wpAny _ _ _ _ _ _ _ (World.drew _)
  refine wpI_any (I := fun X => X.cell? ⟨bb, off + (a + 1), none⟩ = some (.int .u8 (X1 : Int)) ∧ X.cell? ⟨bb, off + (a + 2), none⟩ = some (.int .u8 (X2 : Int))) _ _ _ _ ?_
  refine wpI_take (i := 0) (v := ?_) rfl (by kernel_rfl) (by kernel_rfl) (by kernel_rfl) (fun _ _ _ h => h) ⟨by rfl, ?_⟩ ?_
  rotate_left
  · intro X hI; go_simp; try go_bits
    try rw [if_pos (by omega)]
    try with_reducible rfl
  refine wpI_take (i := 1) (v := ?_) rfl (by kernel_rfl) (by kernel_rfl) (by kernel_rfl) (fun _ _ _ h => h) ⟨by rfl, ?_⟩ ?_
  rotate_left
  · intro X hI; go_simp; try go_bits
    try rw [if_pos (by omega)]
    try with_reducible rfl
  refine wpI_take (i := 2) (v := ?_) rfl (by kernel_rfl) (by kernel_rfl) (by kernel_rfl) (fun _ _ _ h => h) ⟨by rfl, ?_⟩ ?_
  rotate_left
  · intro X hI; go_simp; try go_bits
    try rw [if_pos (by omega)]
    try with_reducible rfl
  refine wpI_take (i := 3) (v := ?_) rfl (by kernel_rfl) (by kernel_rfl) (by kernel_rfl) (fun _ _ _ h => h) ⟨by rfl, ?_⟩ ?_
  rotate_left
  · intro X hI; go_simp; try go_bits
    try rw [if_pos (by omega)]
    try with_reducible rfl
  refine wpI_take (i := 4) (v := ?_) rfl (by kernel_rfl) (by kernel_rfl) (by kernel_rfl) (fun _ _ _ h => h) ⟨by rfl, ?_⟩ ?_
  rotate_left
  · intro X hI; obtain ⟨q1, q2⟩ := hI; go_simp; try go_bits
    try rw [if_pos (by omega)]
    try with_reducible rfl
  refine wpI_take (i := 5) (v := ?_) rfl (by kernel_rfl) (by kernel_rfl) (by kernel_rfl) (fun _ _ _ h => h) ⟨by rfl, ?_⟩ ?_
  rotate_left
  · intro X hI; go_simp; try go_bits
    try rw [if_pos (by omega)]
    try with_reducible rfl
  refine wpI_take (i := 6) (v := ?_) rfl (by kernel_rfl) (by kernel_rfl) (by kernel_rfl) (fun _ _ _ h => h) ⟨by rfl, ?_⟩ ?_
  rotate_left
  · intro X hI; go_simp; try go_bits
    try rw [if_pos (by omega)]
    try with_reducible rfl
  refine wpI_take (i := 7) (v := ?_) rfl (by kernel_rfl) (by kernel_rfl) (by kernel_rfl) (fun _ _ _ h => h) ⟨by rfl, ?_⟩ ?_
  rotate_left
  · intro X hI; go_simp; try go_bits
    try rw [if_pos (by omega)]
    try with_reducible rfl
  refine wpI_take (i := 8) (v := ?_) rfl (by kernel_rfl) (by kernel_rfl) (by kernel_rfl) (fun _ _ _ h => h) ⟨by rfl, ?_⟩ ?_
  rotate_left
  · intro X hI; go_simp; try go_bits
    try rw [if_pos (by omega)]
    try with_reducible rfl
  refine wpI_take (i := 9) (v := ?_) rfl (by kernel_rfl) (by kernel_rfl) (by kernel_rfl) (fun _ _ _ h => h) ⟨by rfl, ?_⟩ ?_
  rotate_left
  · intro X hI; go_simp; try go_bits
    try rw [if_pos (by omega)]
    try with_reducible rfl
  refine wpI_take (i := 10) (v := ?_) rfl (by kernel_rfl) (by kernel_rfl) (by kernel_rfl) (fun _ _ _ h => h) ⟨by rfl, ?_⟩ ?_
  rotate_left
  · intro X hI; go_simp; try go_bits
    try rw [if_pos (by omega)]
    try with_reducible rfl
  refine wpI_take (i := 11) (v := ?_) rfl (by kernel_rfl) (by kernel_rfl) (by kernel_rfl) (fun _ _ _ h => h) ⟨by rfl, ?_⟩ ?_
  rotate_left
  · intro X hI; obtain ⟨q1, q2⟩ := hI; go_simp; try go_bits
    try rw [if_pos (by omega)]
    try with_reducible rfl
  refine wpI_take (i := 12) (v := ?_) rfl (by kernel_rfl) (by kernel_rfl) (by kernel_rfl) (fun _ _ _ h => h) ⟨by rfl, ?_⟩ ?_
  rotate_left
  · intro X hI; go_simp; try go_bits
    try rw [if_pos (by omega)]
    try with_reducible rfl
  refine wpI_take (i := 13) (v := ?_) rfl (by kernel_rfl) (by kernel_rfl) (by kernel_rfl) (fun _ _ _ h => h) ⟨by rfl, ?_⟩ ?_
  rotate_left
  · intro X hI; go_simp; try go_bits
    try rw [if_pos (by omega)]
    try with_reducible rfl
  refine wpI_take (i := 14) (v := ?_) rfl (by kernel_rfl) (by kernel_rfl) (by kernel_rfl) (fun _ _ _ h => h) ⟨by rfl, ?_⟩ ?_
  rotate_left
  · intro X hI; go_simp; try go_bits
    try rw [if_pos (by omega)]
    try with_reducible rfl
  refine wpI_take (i := 15) (v := ?_) rfl (by kernel_rfl) (by kernel_rfl) (by kernel_rfl) (fun _ _ _ h => h) ⟨by rfl, ?_⟩ ?_
  rotate_left
  · intro X hI; go_simp; try go_bits
    try rw [if_pos (by omega)]
    try with_reducible rfl
  refine wpI_take (i := 16) (v := ?_) rfl (by kernel_rfl) (by kernel_rfl) (by kernel_rfl) (fun _ _ _ h => h) ⟨by rfl, ?_⟩ ?_
  rotate_left
  · intro X hI; go_simp; try go_bits
    try rw [if_pos (by omega)]
    try with_reducible rfl
  refine wpI_take (i := 17) (v := ?_) rfl (by kernel_rfl) (by kernel_rfl) (by kernel_rfl) (fun _ _ _ h => h) ⟨by rfl, ?_⟩ ?_
  rotate_left
  · intro X hI; go_simp; try go_bits
    try rw [if_pos (by omega)]
    try with_reducible rfl
  refine wpI_take (i := 18) (v := ?_) rfl (by kernel_rfl) (by kernel_rfl) (by kernel_rfl) (fun _ _ _ h => h) ⟨by rfl, ?_⟩ ?_
  rotate_left
  · intro X hI; obtain ⟨q1, q2⟩ := hI; go_simp; try go_bits
    try rw [if_pos (by omega)]
    try with_reducible rfl
  refine wpI_take (i := 19) (v := ?_) rfl (by kernel_rfl) (by kernel_rfl) (by kernel_rfl) (fun _ _ _ h => h) ⟨by rfl, ?_⟩ ?_
  rotate_left
  · intro X hI; go_simp; try go_bits
    try rw [if_pos (by omega)]
    try with_reducible rfl
  refine wpI_take (i := 20) (v := ?_) rfl (by kernel_rfl) (by kernel_rfl) (by kernel_rfl) (fun _ _ _ h => h) ⟨by rfl, ?_⟩ ?_
  rotate_left
  · intro X hI; go_simp; try go_bits
    try rw [if_pos (by omega)]
    try with_reducible rfl
  refine wpI_take (i := 21) (v := ?_) rfl (by kernel_rfl) (by kernel_rfl) (by kernel_rfl) (fun _ _ _ h => h) ⟨by rfl, ?_⟩ ?_
  rotate_left
  · intro X hI; go_simp; try go_bits
    try rw [if_pos (by omega)]
    try with_reducible rfl
  refine wpI_take (i := 22) (v := ?_) rfl (by kernel_rfl) (by kernel_rfl) (by kernel_rfl) (fun _ _ _ h => h) ⟨by rfl, ?_⟩ ?_
  rotate_left
  · intro X hI; go_simp; try go_bits
    try rw [if_pos (by omega)]
    try with_reducible rfl
  refine wpI_take (i := 23) (v := ?_) rfl (by kernel_rfl) (by kernel_rfl) (by kernel_rfl) (fun _ _ _ h => h) ⟨by rfl, ?_⟩ ?_
  rotate_left
  · intro X hI; go_simp; try go_bits
    try rw [if_pos (by omega)]
    try with_reducible rfl
  refine wpI_done ⟨c1, c2⟩ (by kernel_rfl) ?_ _
  clear iS iL iO
  obtain ⟨h0, h1, h2, h3⟩ := h
  subst h0
  have iS : Hid (∀ w, Calls Tryd.prog 56 #[.int .i64 ((X1 : Int) + 1)] w fun e w' => e = .returned (.bool true) ∧ w' = w) := fun w => by
    have := size_any ((X1 : Int) + 1) w
    rw [decide_eq_true (by omega)] at this
    exact this
  have iL : Hid (∀ w, Calls Tryd.prog 44 #[.int .i64 (k : Int)] w fun e w' => e = .returned (.bool true) ∧ w' = w) := fun w => by
    have := low_any (k : Int) w
    rw [decide_eq_true (by omega)] at this
    exact this
  have iO : Hid (∀ w, Calls Tryd.prog 85 #[.int .i64 (o : Int)] w fun e w' => e = .returned (.bool true) ∧ w' = w) := fun w => by
    have := ord_any (o : Int) w
    rw [decide_eq_true (by omega)] at this
    exact this
  go_upto_region 4 with (first | (go_at_call 56; (with_reducible refine (iS.out _).mono ?_); rintro e w' ⟨rfl, hw⟩; obtain rfl := hw.symm) | (go_at_call 44; (with_reducible refine (iL.out _).mono ?_); rintro e w' ⟨rfl, hw⟩; obtain rfl := hw.symm) | (go_at_call 85; (with_reducible refine (iO.out _).mono ?_); rintro e w' ⟨rfl, hw⟩; obtain rfl := hw.symm) | (go_at_call 84; (with_reducible refine (need_yes 2 _).mono ?_); rintro e w' ⟨rfl, hw⟩; obtain rfl := hw.symm))
  clear iS iL iO
  obtain ⟨m, hm⟩ : ∃ m, m = n - (a + 3) := ⟨_, rfl⟩
  have hm2 : m ≤ 1048576 := by omega
  have e8 : (X1 : Int) + 1 = ((X1 + 1 : Nat) : Int) := by omega
  have ha' : a' ≤ 8 * m := by have := (rdn_told _ HRN.out).2.1; rw [← hm] at this; exact this
  have NU : Hid (∀ W G Bx v', Rdb W G Bx v' (8 * m) 0 (bob (fun i => y (a + 3 + i))) → Calls Tryd.prog 52 #[.pointer (some ⟨G, 0, none⟩), .int .i64 (k : Int), .int .i64 ((X1 : Int) + 1)] W fun e w' => ∃ ua uc, e = .returned (.slice ua R.length uc) ∧ w'.ownsRow W.heap.size 3 1 (.slice ua R.length uc) R.length (ils (lf R) R.length) ∧ Rdb w' G Bx v' (8 * m) a' (bob (fun i => y (a + 3 + i))) ∧ Keep G W w') := fun W G Bx v' hR => by
    rw [e8]
    refine (bnumbers_any hR (fun i _ => bob_bit _ i) (by omega) (by omega) (by omega)).mono ?_
    rintro e w' (⟨R2, a2, u, q1, rfl, q3, q4, q5⟩ | ⟨q1, _⟩)
    · rw [hm, HRN.out] at q1
      injection q1 with q1
      injection q1 with f1 f2
      subst f1 f2
      obtain ⟨ua, uc, rfl⟩ := own_slice3 q3
      exact ⟨ua, uc, rfl, q3, q4, q5⟩
    · rw [hm, HRN.out] at q1; cases q1
  have PP : Hid (∀ W, Calls Tryd.prog 57 #[.int .i64 (a' : Int), .int .i64 8] W fun e w' => e = .returned (.int .i64 (((a' + 7) / 8 : Nat) : Int)) ∧ w' = W) := fun W => pieces8_any (by omega) W
  obtain ⟨E, hE2⟩ : ∃ E, E = (a' + 7) / 8 := ⟨_, rfl⟩
  rw [← hE2] at PP hE
  have hE3 : E ≤ m := by omega
  have eE : (a : Int) + 3 + (E : Int) = (en : Int) := by omega
  have hen : a + 3 ≤ en := by omega
  have hca : ¬ cap = a := by omega
  have hae : a ≤ en := by omega
  clear hE
  clear hE2
  clear e8
  have HYM : Hid (∀ i, i < m → 0 ≤ y (a + 3 + i) ∧ y (a + 3 + i) < 256) := fun i hi => HY.out _ (by omega)
  rw [← hm] at HC
  by_cases hcp : cap = a + 3
  · exact absurd hcp (by omega)
  · have BM : Bl w (.slice (some ⟨bb, off + (a + 3), none⟩) m (cap - (a + 3))) m (fun i => y (a + 3 + i)) := ⟨_, _, rfl, by omega, fun _ => ⟨bb, off + (a + 3), rfl, hlt, HC.out⟩⟩
    have hm0 : n - (a + 3) = m := hm.symm
    have HM : Hid (m = n - (a + 3)) := hm
    clear hm
    have RD : Hid (∀ W, Below w.heap.size w W → W.heap.size = w.heap.size → Calls Tryd.prog 86 #[.slice (some ⟨bb, off + (a + 3), none⟩) m (cap - (a + 3))] W fun e w' => e = .returned (.pointer (some ⟨w.heap.size + 1, 0, none⟩)) ∧ Rdb w' (w.heap.size + 1) w.heap.size (.slice (some ⟨bb, off + (a + 3), none⟩) m (cap - (a + 3))) (8 * m) 0 (bob (fun i => y (a + 3 + i))) ∧ Below w.heap.size w w' ∧ w'.heap.size = w.heap.size + 2) := fun W hW hs => by
      have := breader_any (BM.below hW) HYM.out (by omega)
      rw [hs] at this
      refine this.mono ?_
      rintro e w' ⟨h1, h2, h3, h4⟩
      exact ⟨h1, h2, ⟨h3.os.trans hW.os, h3.tape.trans hW.tape, h3.output.trans hW.output, Nat.le_trans hW.size h3.size, fun k hk => (h3.block k hk).trans (hW.block k hk)⟩, h4⟩
    clear BM
    go_wp2_with (first
      | (go_at_call 86; (with_reducible refine (RD.out _ ?bel ?sz).mono ?_); (case sz => rfl); (case bel => first | exact Below.refl _ _ | exact (Below.refl _ _).drew | exact (Below.refl _ _).drew.drew); rintro e W2 ⟨rfl, hr, hb, hs⟩; have HR2 : Hid (Rdb W2 _ _ _ _ _ _) := hr; have HB2 : Hid (Below _ _ W2) := hb; have s2 := hs; clear hr hb hs)
      | (go_at_call 52; (with_reducible refine (NU.out _ _ _ _ HR2.out).mono ?_); rintro e W3 ⟨ua, uc, rfl, q3, q4, q5⟩; have HK3 : Hid (Keep _ W2 W3) := q5; have HO3 : Hid (W3.ownsRow _ _ _ _ _ _) := q3; have HR3 : Hid (Rdb W3 _ _ _ _ _ _) := q4; have cat := q4.c2; clear q3 q4 q5)
      | (go_at_call 57; (with_reducible refine (PP.out _).mono ?_); rintro e w' ⟨rfl, hw⟩; obtain rfl := hw.symm)
      | (go_at_call 84; (try rw [decide_eq_true (show (2 : Int) ≤ (n : Int) - (en : Int) by omega)]); (with_reducible refine (need_yes 1 _).mono ?_); rintro e w' ⟨rfl, hw⟩; obtain rfl := hw.symm))
    have B3 : Hid (Below w.heap.size w W3) := Below.keep HB2.out HK3.out (by omega)
    have c8 := (B3.out.cell (p := ⟨bb, off + en, none⟩) hlt).trans HE.out.1
    have c9 := (B3.out.cell (p := ⟨bb, off + (en + 1), none⟩) hlt).trans HE.out.2
    have hne : (cc == (Y0 : Int) * 256 + (Y1 : Int)) = true := by rw [hck]; exact beq_self_eq_true _
    clear hck
    refine wp_region_any (by kernel_rfl) ?_
    change wpAny _ _ _ _ _ _ _ (World.drew _)
    refine wpI_any (I := fun X => X.cell? ⟨bb, off + en, none⟩ = some (.int .u8 (Y0 : Int)) ∧ X.cell? ⟨bb, off + (en + 1), none⟩ = some (.int .u8 (Y1 : Int))) _ _ _ _ ?_
    refine wpI_take (i := 0) (v := ?_) rfl (by kernel_rfl) (by kernel_rfl) (by kernel_rfl) (fun _ _ _ h => h) ⟨by rfl, ?_⟩ ?_
    rotate_left
    · intro X hI; go_simp; try go_bits
      try rw [if_pos (by omega)]
      try with_reducible rfl
    refine wpI_take (i := 1) (v := ?_) rfl (by kernel_rfl) (by kernel_rfl) (by kernel_rfl) (fun _ _ _ h => h) ⟨by rfl, ?_⟩ ?_
    rotate_left
    · intro X hI; go_simp; try go_bits
      try rw [if_pos (by omega)]
      try with_reducible rfl
    refine wpI_take (i := 2) (v := ?_) rfl (by kernel_rfl) (by kernel_rfl) (by kernel_rfl) (fun _ _ _ h => h) ⟨by rfl, ?_⟩ ?_
    rotate_left
    · intro X hI; go_simp; try go_bits
      try rw [if_pos (by omega)]
      try with_reducible rfl
    refine wpI_take (i := 3) (v := ?_) rfl (by kernel_rfl) (by kernel_rfl) (by kernel_rfl) (fun _ _ _ h => h) ⟨by rfl, ?_⟩ ?_
    rotate_left
    · intro X hI; go_simp; try go_bits
      try rw [if_pos (by omega)]
      try with_reducible rfl
    refine wpI_take (i := 5) (v := ?_) rfl (by kernel_rfl) (by kernel_rfl) (by kernel_rfl) (fun _ _ _ h => h) ⟨by rfl, ?_⟩ ?_
    rotate_left
    · intro X hI; go_simp; try go_bits
      try rw [if_pos (by omega)]
      try with_reducible rfl
    refine wpI_take (i := 6) (v := ?_) rfl (by kernel_rfl) (by kernel_rfl) (by kernel_rfl) (fun _ _ _ h => h) ⟨by rfl, ?_⟩ ?_
    rotate_left
    · intro X hI; go_simp; try go_bits
      try rw [if_pos (by omega)]
      try with_reducible rfl
    refine wpI_take (i := 7) (v := ?_) rfl (by kernel_rfl) (by kernel_rfl) (by kernel_rfl) (fun _ _ _ h => h) ⟨by rfl, ?_⟩ ?_
    rotate_left
    · intro X hI; go_simp; try go_bits
      try rw [if_pos (by omega)]
      try with_reducible rfl
    refine wpI_take (i := 8) (v := ?_) rfl (by kernel_rfl) (by kernel_rfl) (by kernel_rfl) (fun _ _ _ h => h) ⟨by rfl, ?_⟩ ?_
    rotate_left
    · intro X hI; obtain ⟨q1, q2⟩ := hI; go_simp; try go_bits
      try rw [if_pos (by omega)]
      try with_reducible rfl
    refine wpI_take (i := 9) (v := ?_) rfl (by kernel_rfl) (by kernel_rfl) (by kernel_rfl) (fun _ _ _ h => h) ⟨by rfl, ?_⟩ ?_
    rotate_left
    · intro X hI; go_simp; try go_bits
      try rw [if_pos (by omega)]
      try with_reducible rfl
    refine wpI_take (i := 10) (v := ?_) rfl (by kernel_rfl) (by kernel_rfl) (by kernel_rfl) (fun _ _ _ h => h) ⟨by rfl, ?_⟩ ?_
    rotate_left
    · intro X hI; go_simp; try go_bits
      try rw [if_pos (by omega)]
      try with_reducible rfl
    refine wpI_take (i := 11) (v := ?_) rfl (by kernel_rfl) (by kernel_rfl) (by kernel_rfl) (fun _ _ _ h => h) ⟨by rfl, ?_⟩ ?_
    rotate_left
    · intro X hI; go_simp; try go_bits
      try rw [if_pos (by omega)]
      try with_reducible rfl
    refine wpI_take (i := 12) (v := ?_) rfl (by kernel_rfl) (by kernel_rfl) (by kernel_rfl) (fun _ _ _ h => h) ⟨by rfl, ?_⟩ ?_
    rotate_left
    · intro X hI; go_simp; try go_bits
      try rw [if_pos (by omega)]
      try with_reducible rfl
    refine wpI_take (i := 13) (v := ?_) rfl (by kernel_rfl) (by kernel_rfl) (by kernel_rfl) (fun _ _ _ h => h) ⟨by rfl, ?_⟩ ?_
    rotate_left
    · intro X hI; go_simp; try go_bits
      try rw [if_pos (by omega)]
      try with_reducible rfl
    refine wpI_take (i := 14) (v := ?_) rfl (by kernel_rfl) (by kernel_rfl) (by kernel_rfl) (fun _ _ _ h => h) ⟨by rfl, ?_⟩ ?_
    rotate_left
    · intro X hI; go_simp; try go_bits
      try rw [if_pos (by omega)]
      try with_reducible rfl
    refine wpI_take (i := 15) (v := ?_) rfl (by kernel_rfl) (by kernel_rfl) (by kernel_rfl) (fun _ _ _ h => h) ⟨by rfl, ?_⟩ ?_
    rotate_left
    · intro X hI; obtain ⟨q1, q2⟩ := hI; go_simp; try go_bits
      try rw [if_pos (by omega)]
      try with_reducible rfl
    refine wpI_take (i := 16) (v := ?_) rfl (by kernel_rfl) (by kernel_rfl) (by kernel_rfl) (fun _ _ _ h => h) ⟨by rfl, ?_⟩ ?_
    rotate_left
    · intro X hI; go_simp; try go_bits
      try rw [if_pos (by omega)]
      try with_reducible rfl
    refine wpI_take (i := 17) (v := ?_) rfl (by kernel_rfl) (by kernel_rfl) (by kernel_rfl) (fun _ _ _ h => h) ⟨by rfl, ?_⟩ ?_
    rotate_left
    · intro X hI; go_simp; try go_bits
      try rw [if_pos (by omega)]
      try with_reducible rfl
    refine wpI_only (i := 4) rfl (by kernel_rfl) ⟨c8, c9⟩ (by rfl) ?_
    intro K hK
    go_simp
    go_wp2_with (go_at_call 63; (with_reducible refine (CRC.out _ ?bel).mono ?_); (case bel => first | exact B3.out | exact B3.out.drew | exact B3.out.drew.drew); rintro e w' ⟨rfl, hw⟩; obtain rfl := hw.symm)
    refine wpI_take (i := 18) (v := ?_) rfl (by kernel_rfl) (by kernel_rfl) (by kernel_rfl) (fun _ _ _ h => h) ⟨by rfl, ?_⟩ ?_
    rotate_left
    · intro X hI; go_simp; try go_bits
      try rw [if_pos (by omega)]
      try with_reducible rfl
    refine wpI_only (i := 19) rfl (by kernel_rfl) ⟨c8, c9⟩ (by rfl) ?_
    intro K hK
    go_simp
    go_wp2_with (go_at_call 84; (with_reducible refine (need_yes 4 _).mono ?_); rintro e w' ⟨rfl, hw⟩; obtain rfl := hw.symm)
    refine wpI_done ⟨c8, c9⟩ (by kernel_rfl) ?_ _
    have ILL : Hid (∀ X, Below W3.heap.size W3 X → Il X (.slice ua R.length uc) R.length (lf R)) := fun X hX => (il_of_own HO3.out).below hX
    cases A
    · go_wp2_with (first | (go_at_call 87; (with_reducible refine (HU.out _ _ ?il).mono ?_); (case il => first | exact ILL.out _ (Below.refl _ _) | exact ILL.out _ (Below.refl _ _).drew | exact ILL.out _ (Below.refl _ _).drew.drew); rintro e W4 ⟨u4, rfl, ho4, hb4⟩; obtain ⟨a4, c4, h4⟩ := own_slice3 ho4; subst h4; have HO4 : Hid (W4.ownsRow w.heap.size 3 1 (.slice a4 N c4) N (ils zs N)) := own_base ho4 B3.out.size; have HB4 : Hid (Below w.heap.size w W4) := (by first | exact bstep B3.out hb4 | exact bstep B3.out.drew hb4 | exact bstep B3.out.drew.drew hb4); clear ho4 hb4) | (go_at_call 20; (with_reducible refine (HP.out _ _ ?il).mono ?_); (case il => first | exact il_of_own HO4.out | exact (il_of_own HO4.out).below (Below.refl _ _).drew); rintro e W5 ⟨u5, rfl, ho5, hb5⟩; obtain ⟨a5, c5, h5⟩ := own_slice5 ho5; subst h5; have HO5 : Hid (W5.ownsRow w.heap.size 3 1 (.slice a4 N c4) N (ils zs N)) := (by first | exact own_below HO4.out hb5 | exact own_below (own_below HO4.out (Below.refl _ _).drew) hb5); have HB5 : Hid (Below w.heap.size w W5) := (by first | exact bstep HB4.out hb5 | exact bstep HB4.out.drew hb5); have HL5 : Hid (Bl W5 (.slice a5 N2 c5) N2 ys) := bl_of_own ho5; clear ho5 hb5) | (go_at_call 84; (with_reducible refine (need_no 5 _).mono ?_); rintro e w' ⟨rfl, hw⟩; obtain rfl := hw.symm))
      exact ⟨rfl, rfl, (by first | exact HB5.out | exact HB5.out.drew | exact HB5.out.drew.drew)⟩
    · cases ok
      · go_wp2_with (first | (go_at_call 87; (with_reducible refine (HU.out _ _ ?il).mono ?_); (case il => first | exact ILL.out _ (Below.refl _ _) | exact ILL.out _ (Below.refl _ _).drew | exact ILL.out _ (Below.refl _ _).drew.drew); rintro e W4 ⟨u4, rfl, ho4, hb4⟩; obtain ⟨a4, c4, h4⟩ := own_slice3 ho4; subst h4; have HO4 : Hid (W4.ownsRow w.heap.size 3 1 (.slice a4 N c4) N (ils zs N)) := own_base ho4 B3.out.size; have HB4 : Hid (Below w.heap.size w W4) := (by first | exact bstep B3.out hb4 | exact bstep B3.out.drew hb4 | exact bstep B3.out.drew.drew hb4); clear ho4 hb4) | (go_at_call 20; (with_reducible refine (HP.out _ _ ?il).mono ?_); (case il => first | exact il_of_own HO4.out | exact (il_of_own HO4.out).below (Below.refl _ _).drew); rintro e W5 ⟨u5, rfl, ho5, hb5⟩; obtain ⟨a5, c5, h5⟩ := own_slice5 ho5; subst h5; have HO5 : Hid (W5.ownsRow w.heap.size 3 1 (.slice a4 N c4) N (ils zs N)) := (by first | exact own_below HO4.out hb5 | exact own_below (own_below HO4.out (Below.refl _ _).drew) hb5); have HB5 : Hid (Below w.heap.size w W5) := (by first | exact bstep HB4.out hb5 | exact bstep HB4.out.drew hb5); have HL5 : Hid (Bl W5 (.slice a5 N2 c5) N2 ys) := bl_of_own ho5; clear ho5 hb5) | (go_at_call 84; (with_reducible refine (need_no 5 _).mono ?_); rintro e w' ⟨rfl, hw⟩; obtain rfl := hw.symm))
        exact ⟨rfl, rfl, (by first | exact HB5.out | exact HB5.out.drew | exact HB5.out.drew.drew)⟩
      · cases Eq
        · go_wp2_with (first | (go_at_call 87; (with_reducible refine (HU.out _ _ ?il).mono ?_); (case il => first | exact ILL.out _ (Below.refl _ _) | exact ILL.out _ (Below.refl _ _).drew | exact ILL.out _ (Below.refl _ _).drew.drew); rintro e W4 ⟨u4, rfl, ho4, hb4⟩; obtain ⟨a4, c4, h4⟩ := own_slice3 ho4; subst h4; have HO4 : Hid (W4.ownsRow w.heap.size 3 1 (.slice a4 N c4) N (ils zs N)) := own_base ho4 B3.out.size; have HB4 : Hid (Below w.heap.size w W4) := (by first | exact bstep B3.out hb4 | exact bstep B3.out.drew hb4 | exact bstep B3.out.drew.drew hb4); clear ho4 hb4) | (go_at_call 20; (with_reducible refine (HP.out _ _ ?il).mono ?_); (case il => first | exact il_of_own HO4.out | exact (il_of_own HO4.out).below (Below.refl _ _).drew); rintro e W5 ⟨u5, rfl, ho5, hb5⟩; obtain ⟨a5, c5, h5⟩ := own_slice5 ho5; subst h5; have HO5 : Hid (W5.ownsRow w.heap.size 3 1 (.slice a4 N c4) N (ils zs N)) := (by first | exact own_below HO4.out hb5 | exact own_below (own_below HO4.out (Below.refl _ _).drew) hb5); have HB5 : Hid (Below w.heap.size w W5) := (by first | exact bstep HB4.out hb5 | exact bstep HB4.out.drew hb5); have HL5 : Hid (Bl W5 (.slice a5 N2 c5) N2 ys) := bl_of_own ho5; clear ho5 hb5) | (go_at_call 88; (with_reducible refine (HQ.out _ _ ?bel ?bl).mono ?_); (case bel => first | exact HB5.out | exact HB5.out.drew | exact HB5.out.drew.drew); (case bl => first | exact HL5.out | exact HL5.out.below (Below.refl _ _).drew | exact HL5.out.below (Below.refl _ _).drew.drew); rintro e w' ⟨rfl, hw⟩; obtain rfl := hw.symm) | (go_at_call 84; (with_reducible refine (need_no 5 _).mono ?_); rintro e w' ⟨rfl, hw⟩; obtain rfl := hw.symm))
          exact ⟨rfl, rfl, (by first | exact HB5.out | exact HB5.out.drew | exact HB5.out.drew.drew)⟩
        · go_wp2_with (first | (go_at_call 87; (with_reducible refine (HU.out _ _ ?il).mono ?_); (case il => first | exact ILL.out _ (Below.refl _ _) | exact ILL.out _ (Below.refl _ _).drew | exact ILL.out _ (Below.refl _ _).drew.drew); rintro e W4 ⟨u4, rfl, ho4, hb4⟩; obtain ⟨a4, c4, h4⟩ := own_slice3 ho4; subst h4; have HO4 : Hid (W4.ownsRow w.heap.size 3 1 (.slice a4 N c4) N (ils zs N)) := own_base ho4 B3.out.size; have HB4 : Hid (Below w.heap.size w W4) := (by first | exact bstep B3.out hb4 | exact bstep B3.out.drew hb4 | exact bstep B3.out.drew.drew hb4); clear ho4 hb4) | (go_at_call 20; (with_reducible refine (HP.out _ _ ?il).mono ?_); (case il => first | exact il_of_own HO4.out | exact (il_of_own HO4.out).below (Below.refl _ _).drew); rintro e W5 ⟨u5, rfl, ho5, hb5⟩; obtain ⟨a5, c5, h5⟩ := own_slice5 ho5; subst h5; have HO5 : Hid (W5.ownsRow w.heap.size 3 1 (.slice a4 N c4) N (ils zs N)) := (by first | exact own_below HO4.out hb5 | exact own_below (own_below HO4.out (Below.refl _ _).drew) hb5); have HB5 : Hid (Below w.heap.size w W5) := (by first | exact bstep HB4.out hb5 | exact bstep HB4.out.drew hb5); have HL5 : Hid (Bl W5 (.slice a5 N2 c5) N2 ys) := bl_of_own ho5; clear ho5 hb5) | (go_at_call 88; (with_reducible refine (HQ.out _ _ ?bel ?bl).mono ?_); (case bel => first | exact HB5.out | exact HB5.out.drew | exact HB5.out.drew.drew); (case bl => first | exact HL5.out | exact HL5.out.below (Below.refl _ _).drew | exact HL5.out.below (Below.refl _ _).drew.drew); rintro e w' ⟨rfl, hw⟩; obtain rfl := hw.symm) | (go_at_call 84; (with_reducible refine (need_yes 5 _).mono ?_); rintro e w' ⟨rfl, hw⟩; obtain rfl := hw.symm))
          go_ret2
          exact ⟨⟨_, rfl, by first | exact HO5.out | exact own_below HO5.out (Below.refl _ _).drew⟩, (by first | exact HB5.out | exact HB5.out.drew | exact HB5.out.drew.drew)⟩
end Go.Proofs.YtndagpompioooaaDoor
