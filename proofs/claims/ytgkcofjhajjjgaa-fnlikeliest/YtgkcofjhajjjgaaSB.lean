/- Spread: the document, by memory. -/
import Derived.Test.YtgkcofjhajjjgaaSA
namespace Go.Proofs.Ytgkcofjhajjjgaa
open Go.RowKit

set_option maxHeartbeats 8000000 in
theorem sSpr_1 {w : World} {v : Value} {n : Nat} {xs : Nat → Int} (hv : Il w v n xs) (h : Bts n xs) (hn : n ≤ 120) {a b : Nat} (hab : Cd 1 a b) :
    Calls Try.prog 23 #[.int .i64 1, .int .i64 (a : Int), .int .i64 (b : Int), v] w fun e w' => Pst w w' e (2 * (n + 1)) (spd 1 a b (ub n xs)) true := by
  obtain ⟨i0, hi, hz0, hz1, hz2⟩ := info_parts Try.info3
  have ha8 := mk_lt (by omega) hab.2.1
  have hb8 := mk_lt (by omega) hab.2.2
  have i1 := sBits_any (hv.below (below_one w (.cells #[] 3))) (by omega)
  rw [decide_eq_true h] at i1
  have i2 := sCoder_any 1 (a : Int) (b : Int)
  rw [decide_eq_true hab] at i2
  clear hab
  have HBT : Hid (∀ k, k < n → Bit (xs k)) := h.2
  have HU : Hid (∀ i, ub n xs i ≤ 1) := ub_le h.2
  have OW : Hid ((w.alloc (.cells #[] 3)).ownsRow w.heap.size 3 1 (.slice (some ⟨w.heap.size, 0, none⟩) 0 0) (2 * 0) (ils (spd 1 a b (ub n xs)) (2 * 0))) := own_empty w 3 1
  have BL : Hid (Below w.heap.size w (w.alloc (.cells #[] 3))) := below_one _ _
  obtain ⟨ao, cap, rfl, hcap, hc⟩ := hv
  have HC : Hid (0 < n → ∃ b off, ao = some ⟨b, off, none⟩ ∧ b < w.heap.size ∧ ∀ k, k < n → w.cell? ⟨b, off + k, none⟩ = some (.int .i64 (xs k))) := hc
  clear hc h
  go_enter Try.func23, Try.ntmps23
  go_wp2_with (first | (go_at_call 53; (with_reducible refine (i1).mono ?_); rintro e w' ⟨rfl, hw⟩; obtain rfl := hw.symm) | (go_at_call 44; (with_reducible refine (i2 _).mono ?_); rintro e w' ⟨rfl, hw⟩; obtain rfl := hw.symm))
  clear i1 i2
  generalize w.alloc (.cells #[] 3) = W at *
  go_loopw [10, 11, 12, 13] (fun o r i _ wr => ∃ (j q : Nat), i = .int .i64 j ∧ r = .int .i64 q ∧ j ≤ n + 1 ∧ q < 128 ∧ Hid (q % 2 ^ 1 = stt 1 (ub n xs) j ∧ wr.ownsRow w.heap.size 3 1 o (2 * j) (ils (spd 1 a b (ub n xs)) (2 * j)) ∧ Below w.heap.size w wr)) (fun _ _ i _ _ => n + 1 - (intOf i).toNat)
  case atStart => exact ⟨0, 0, rfl, rfl, by omega, by omega, rfl, OW.out, BL.out⟩
  case round =>
    obtain ⟨j, q, rfl, rfl, hj, hq, hrel⟩ := hrel
    by_cases h1 : j < n + 1
    · have HO := hrel.out.2.1
      have HB := hrel.out.2.2
      obtain ⟨x, hx⟩ : ∃ x, x = ub n xs j := ⟨_, rfl⟩
      have hx1 : x ≤ 1 := by rw [hx]; exact HU.out j
      obtain ⟨r, hr⟩ : ∃ r, r = rgg 1 (ub n xs) j := ⟨_, rfl⟩
      have hr8 : r < 128 := by rw [hr]; exact rgg_lt (by omega) (HU.out j)
      have hqr : (2 * q + x) % 4 = r := by rw [hr, hx]; have := reg_mod (M := 1) (r := q) (by omega) (HU.out j); rw [hrel.out.1] at this; exact this
      have e1 : (2 * (q : Int) + (x : Int)).tmod 4 = (r : Int) := by rw [Int.tmod_eq_emod_of_nonneg (by omega)]; omega
      have e2 : (2 * (q : Int) + (x : Int)) % 4 = (r : Int) := by omega
      have a1 := and_nat (a := r) (b := a) (by omega) (by omega)
      have a2 := and_nat (a := r) (b := b) (by omega) (by omega)
      have j1 := l14_any (r &&& a) (Nat.lt_of_le_of_lt Nat.and_le_left (by omega))
      have j2 := l14_any (r &&& b) (Nat.lt_of_le_of_lt Nat.and_le_left (by omega))
      obtain ⟨p1, hp1⟩ : ∃ p, p = par (r &&& a) := ⟨_, rfl⟩
      obtain ⟨p2, hp2⟩ : ∃ p, p = par (r &&& b) := ⟨_, rfl⟩
      have f1 : ((ones (r &&& a) : Nat) : Int).tmod 2 = (p1 : Int) := by rw [Int.tmod_eq_emod_of_nonneg (by omega), hp1]; unfold par; omega
      have f2 : ((ones (r &&& a) : Nat) : Int) % 2 = (p1 : Int) := by rw [hp1]; unfold par; omega
      have f3 : ((ones (r &&& b) : Nat) : Int).tmod 2 = (p2 : Int) := by rw [Int.tmod_eq_emod_of_nonneg (by omega), hp2]; unfold par; omega
      have f4 : ((ones (r &&& b) : Nat) : Int) % 2 = (p2 : Int) := by rw [hp2]; unfold par; omega
      have l1 := ones_le (r &&& a)
      have l2 := ones_le (r &&& b)
      have HR : Hid (r = rgg 1 (ub n xs) j) := hr
      have HP1 : Hid (p1 = par (r &&& a)) := hp1
      have HP2 : Hid (p2 = par (r &&& b)) := hp2
      have HX : Hid (x = ub n xs j) := hx
      generalize ones (r &&& a) = o1 at *
      generalize ones (r &&& b) = o2 at *
      clear hr hp1 hp2 hqr hx
      obtain ⟨ra, hra⟩ : ∃ y, y = (r &&& a) := ⟨_, rfl⟩
      obtain ⟨rb, hrb⟩ : ∃ y, y = (r &&& b) := ⟨_, rfl⟩
      rw [← hra] at a1 j1
      rw [← hrb] at a2 j2
      clear hra hrb
      obtain ⟨L, hL⟩ : ∃ L, L = ils (spd 1 a b (ub n xs)) (2 * j) := ⟨_, rfl⟩
      have HL : Hid (L = ils (spd 1 a b (ub n xs)) (2 * j)) := hL
      rw [← hL] at HO
      clear hL
      by_cases h2 : j < n
      · obtain ⟨b9, off, rfl, hlt, hcell⟩ := HC.out (by omega)
        have c := (hrel.out.2.2.cell (p := ⟨b9, off + j, none⟩) hlt).trans (hcell j h2)
        have hxx : xs j = (x : Int) := by rw [HX.out]; unfold ub; rw [if_pos h2]; rcases HBT.out j h2 with e | e <;> rw [e] <;> rfl
        rw [hxx] at c
        clear hcell hrel hxx
        have hb3 := below_one wr (.cells #[.int .i64 (p1 : Int), .int .i64 (p2 : Int)] 3)
        have HO3 := own_below HO hb3
        have HB3 := bstep HB hb3
        clear hb3
        go_wp2_with (first | (go_at_call 54; (with_reducible refine (j1 _).mono ?_); rintro e w' ⟨rfl, hw⟩; obtain rfl := hw.symm) | (go_at_call 54; (with_reducible refine (j2 _).mono ?_); rintro e w' ⟨rfl, hw⟩; obtain rfl := hw.symm) | (at_builtin; refine wpList_append_own _ rfl _ _ 24 rfl w.heap.size 3 i0 (.int .i64 0) 1 8 Try.underlying24 hi hz0 hz1 hz2 rfl (by decide) _ _ _ rfl HO3 ⟨wr.heap.size, 0, none⟩ 2 2 [.int .i64 (p1 : Int), .int .i64 (p2 : Int)] rfl rfl (two_new _ _ _ _) (by simp [Value.oneCell']) (by unfold maxLen; omega) (by omega) HB3.size ?_))
        intro v' w4 hown' hgrow _
        have HB4 : Hid (Below w.heap.size w w4) := grown_below HB3 (Nat.le_refl _) HO3 hgrow
        have HO4 : Hid (w4.ownsRow w.heap.size 3 1 v' (2 * j + 2) (L ++ [.int .i64 (p1 : Int), .int .i64 (p2 : Int)])) := hown'
        clear hown' hgrow HB3 HO3
        go_wp2
        go_roundw
        case rel => exact ⟨j + 1, r, by go_num, rfl, by omega, hr8, by rw [HR.out]; exact stt_next _ _ _, by rw [show 2 * (j + 1) = 2 * j + 2 by omega, ← ils_spd, ← HL.out, ← HR.out]; rw [HP1.out, HP2.out] at HO4; exact HO4.out, HB4.out⟩
        case measure => simp [intOf]; omega
      · obtain rfl : x = 0 := by rw [HX.out]; unfold ub; rw [if_neg h2]
        have e3 : (2 * (q : Int)).tmod 4 = (r : Int) := by rw [← e1]; simp
        have e4 : (2 * (q : Int)) % 4 = (r : Int) := by rw [← e2]; simp
        clear hrel e1 e2
        have hb3 := below_one wr (.cells #[.int .i64 (p1 : Int), .int .i64 (p2 : Int)] 3)
        have HO3 := own_below HO hb3
        have HB3 := bstep HB hb3
        clear hb3
        go_wp2_with (first | (go_at_call 54; (with_reducible refine (j1 _).mono ?_); rintro e w' ⟨rfl, hw⟩; obtain rfl := hw.symm) | (go_at_call 54; (with_reducible refine (j2 _).mono ?_); rintro e w' ⟨rfl, hw⟩; obtain rfl := hw.symm) | (at_builtin; refine wpList_append_own _ rfl _ _ 24 rfl w.heap.size 3 i0 (.int .i64 0) 1 8 Try.underlying24 hi hz0 hz1 hz2 rfl (by decide) _ _ _ rfl HO3 ⟨wr.heap.size, 0, none⟩ 2 2 [.int .i64 (p1 : Int), .int .i64 (p2 : Int)] rfl rfl (two_new _ _ _ _) (by simp [Value.oneCell']) (by unfold maxLen; omega) (by omega) HB3.size ?_))
        intro v' w4 hown' hgrow _
        have HB4 : Hid (Below w.heap.size w w4) := grown_below HB3 (Nat.le_refl _) HO3 hgrow
        have HO4 : Hid (w4.ownsRow w.heap.size 3 1 v' (2 * j + 2) (L ++ [.int .i64 (p1 : Int), .int .i64 (p2 : Int)])) := hown'
        clear hown' hgrow HB3 HO3
        go_wp2
        go_roundw
        case rel => exact ⟨j + 1, r, by go_num, rfl, by omega, hr8, by rw [HR.out]; exact stt_next _ _ _, by rw [show 2 * (j + 1) = 2 * j + 2 by omega, ← ils_spd, ← HL.out, ← HR.out]; rw [HP1.out, HP2.out] at HO4; exact HO4.out, HB4.out⟩
        case measure => simp [intOf]; omega
    · obtain rfl : j = n + 1 := by omega
      go_wp2
      go_ret2
      exact ⟨_, rfl, hrel.out.2.1, hrel.out.2.2⟩

set_option maxHeartbeats 8000000 in
theorem sSpr_2 {w : World} {v : Value} {n : Nat} {xs : Nat → Int} (hv : Il w v n xs) (h : Bts n xs) (hn : n ≤ 120) {a b : Nat} (hab : Cd 2 a b) :
    Calls Try.prog 23 #[.int .i64 2, .int .i64 (a : Int), .int .i64 (b : Int), v] w fun e w' => Pst w w' e (2 * (n + 2)) (spd 2 a b (ub n xs)) true := by
  obtain ⟨i0, hi, hz0, hz1, hz2⟩ := info_parts Try.info3
  have ha8 := mk_lt (by omega) hab.2.1
  have hb8 := mk_lt (by omega) hab.2.2
  have i1 := sBits_any (hv.below (below_one w (.cells #[] 3))) (by omega)
  rw [decide_eq_true h] at i1
  have i2 := sCoder_any 2 (a : Int) (b : Int)
  rw [decide_eq_true hab] at i2
  clear hab
  have HBT : Hid (∀ k, k < n → Bit (xs k)) := h.2
  have HU : Hid (∀ i, ub n xs i ≤ 1) := ub_le h.2
  have OW : Hid ((w.alloc (.cells #[] 3)).ownsRow w.heap.size 3 1 (.slice (some ⟨w.heap.size, 0, none⟩) 0 0) (2 * 0) (ils (spd 2 a b (ub n xs)) (2 * 0))) := own_empty w 3 1
  have BL : Hid (Below w.heap.size w (w.alloc (.cells #[] 3))) := below_one _ _
  obtain ⟨ao, cap, rfl, hcap, hc⟩ := hv
  have HC : Hid (0 < n → ∃ b off, ao = some ⟨b, off, none⟩ ∧ b < w.heap.size ∧ ∀ k, k < n → w.cell? ⟨b, off + k, none⟩ = some (.int .i64 (xs k))) := hc
  clear hc h
  go_enter Try.func23, Try.ntmps23
  go_wp2_with (first | (go_at_call 53; (with_reducible refine (i1).mono ?_); rintro e w' ⟨rfl, hw⟩; obtain rfl := hw.symm) | (go_at_call 44; (with_reducible refine (i2 _).mono ?_); rintro e w' ⟨rfl, hw⟩; obtain rfl := hw.symm))
  clear i1 i2
  generalize w.alloc (.cells #[] 3) = W at *
  go_loopw [10, 11, 12, 13] (fun o r i _ wr => ∃ (j q : Nat), i = .int .i64 j ∧ r = .int .i64 q ∧ j ≤ n + 2 ∧ q < 128 ∧ Hid (q % 2 ^ 2 = stt 2 (ub n xs) j ∧ wr.ownsRow w.heap.size 3 1 o (2 * j) (ils (spd 2 a b (ub n xs)) (2 * j)) ∧ Below w.heap.size w wr)) (fun _ _ i _ _ => n + 2 - (intOf i).toNat)
  case atStart => exact ⟨0, 0, rfl, rfl, by omega, by omega, rfl, OW.out, BL.out⟩
  case round =>
    obtain ⟨j, q, rfl, rfl, hj, hq, hrel⟩ := hrel
    by_cases h1 : j < n + 2
    · have HO := hrel.out.2.1
      have HB := hrel.out.2.2
      obtain ⟨x, hx⟩ : ∃ x, x = ub n xs j := ⟨_, rfl⟩
      have hx1 : x ≤ 1 := by rw [hx]; exact HU.out j
      obtain ⟨r, hr⟩ : ∃ r, r = rgg 2 (ub n xs) j := ⟨_, rfl⟩
      have hr8 : r < 128 := by rw [hr]; exact rgg_lt (by omega) (HU.out j)
      have hqr : (2 * q + x) % 8 = r := by rw [hr, hx]; have := reg_mod (M := 2) (r := q) (by omega) (HU.out j); rw [hrel.out.1] at this; exact this
      have e1 : (2 * (q : Int) + (x : Int)).tmod 8 = (r : Int) := by rw [Int.tmod_eq_emod_of_nonneg (by omega)]; omega
      have e2 : (2 * (q : Int) + (x : Int)) % 8 = (r : Int) := by omega
      have a1 := and_nat (a := r) (b := a) (by omega) (by omega)
      have a2 := and_nat (a := r) (b := b) (by omega) (by omega)
      have j1 := l14_any (r &&& a) (Nat.lt_of_le_of_lt Nat.and_le_left (by omega))
      have j2 := l14_any (r &&& b) (Nat.lt_of_le_of_lt Nat.and_le_left (by omega))
      obtain ⟨p1, hp1⟩ : ∃ p, p = par (r &&& a) := ⟨_, rfl⟩
      obtain ⟨p2, hp2⟩ : ∃ p, p = par (r &&& b) := ⟨_, rfl⟩
      have f1 : ((ones (r &&& a) : Nat) : Int).tmod 2 = (p1 : Int) := by rw [Int.tmod_eq_emod_of_nonneg (by omega), hp1]; unfold par; omega
      have f2 : ((ones (r &&& a) : Nat) : Int) % 2 = (p1 : Int) := by rw [hp1]; unfold par; omega
      have f3 : ((ones (r &&& b) : Nat) : Int).tmod 2 = (p2 : Int) := by rw [Int.tmod_eq_emod_of_nonneg (by omega), hp2]; unfold par; omega
      have f4 : ((ones (r &&& b) : Nat) : Int) % 2 = (p2 : Int) := by rw [hp2]; unfold par; omega
      have l1 := ones_le (r &&& a)
      have l2 := ones_le (r &&& b)
      have HR : Hid (r = rgg 2 (ub n xs) j) := hr
      have HP1 : Hid (p1 = par (r &&& a)) := hp1
      have HP2 : Hid (p2 = par (r &&& b)) := hp2
      have HX : Hid (x = ub n xs j) := hx
      generalize ones (r &&& a) = o1 at *
      generalize ones (r &&& b) = o2 at *
      clear hr hp1 hp2 hqr hx
      obtain ⟨ra, hra⟩ : ∃ y, y = (r &&& a) := ⟨_, rfl⟩
      obtain ⟨rb, hrb⟩ : ∃ y, y = (r &&& b) := ⟨_, rfl⟩
      rw [← hra] at a1 j1
      rw [← hrb] at a2 j2
      clear hra hrb
      obtain ⟨L, hL⟩ : ∃ L, L = ils (spd 2 a b (ub n xs)) (2 * j) := ⟨_, rfl⟩
      have HL : Hid (L = ils (spd 2 a b (ub n xs)) (2 * j)) := hL
      rw [← hL] at HO
      clear hL
      by_cases h2 : j < n
      · obtain ⟨b9, off, rfl, hlt, hcell⟩ := HC.out (by omega)
        have c := (hrel.out.2.2.cell (p := ⟨b9, off + j, none⟩) hlt).trans (hcell j h2)
        have hxx : xs j = (x : Int) := by rw [HX.out]; unfold ub; rw [if_pos h2]; rcases HBT.out j h2 with e | e <;> rw [e] <;> rfl
        rw [hxx] at c
        clear hcell hrel hxx
        have hb3 := below_one wr (.cells #[.int .i64 (p1 : Int), .int .i64 (p2 : Int)] 3)
        have HO3 := own_below HO hb3
        have HB3 := bstep HB hb3
        clear hb3
        go_wp2_with (first | (go_at_call 54; (with_reducible refine (j1 _).mono ?_); rintro e w' ⟨rfl, hw⟩; obtain rfl := hw.symm) | (go_at_call 54; (with_reducible refine (j2 _).mono ?_); rintro e w' ⟨rfl, hw⟩; obtain rfl := hw.symm) | (at_builtin; refine wpList_append_own _ rfl _ _ 24 rfl w.heap.size 3 i0 (.int .i64 0) 1 8 Try.underlying24 hi hz0 hz1 hz2 rfl (by decide) _ _ _ rfl HO3 ⟨wr.heap.size, 0, none⟩ 2 2 [.int .i64 (p1 : Int), .int .i64 (p2 : Int)] rfl rfl (two_new _ _ _ _) (by simp [Value.oneCell']) (by unfold maxLen; omega) (by omega) HB3.size ?_))
        intro v' w4 hown' hgrow _
        have HB4 : Hid (Below w.heap.size w w4) := grown_below HB3 (Nat.le_refl _) HO3 hgrow
        have HO4 : Hid (w4.ownsRow w.heap.size 3 1 v' (2 * j + 2) (L ++ [.int .i64 (p1 : Int), .int .i64 (p2 : Int)])) := hown'
        clear hown' hgrow HB3 HO3
        go_wp2
        go_roundw
        case rel => exact ⟨j + 1, r, by go_num, rfl, by omega, hr8, by rw [HR.out]; exact stt_next _ _ _, by rw [show 2 * (j + 1) = 2 * j + 2 by omega, ← ils_spd, ← HL.out, ← HR.out]; rw [HP1.out, HP2.out] at HO4; exact HO4.out, HB4.out⟩
        case measure => simp [intOf]; omega
      · obtain rfl : x = 0 := by rw [HX.out]; unfold ub; rw [if_neg h2]
        have e3 : (2 * (q : Int)).tmod 8 = (r : Int) := by rw [← e1]; simp
        have e4 : (2 * (q : Int)) % 8 = (r : Int) := by rw [← e2]; simp
        clear hrel e1 e2
        have hb3 := below_one wr (.cells #[.int .i64 (p1 : Int), .int .i64 (p2 : Int)] 3)
        have HO3 := own_below HO hb3
        have HB3 := bstep HB hb3
        clear hb3
        go_wp2_with (first | (go_at_call 54; (with_reducible refine (j1 _).mono ?_); rintro e w' ⟨rfl, hw⟩; obtain rfl := hw.symm) | (go_at_call 54; (with_reducible refine (j2 _).mono ?_); rintro e w' ⟨rfl, hw⟩; obtain rfl := hw.symm) | (at_builtin; refine wpList_append_own _ rfl _ _ 24 rfl w.heap.size 3 i0 (.int .i64 0) 1 8 Try.underlying24 hi hz0 hz1 hz2 rfl (by decide) _ _ _ rfl HO3 ⟨wr.heap.size, 0, none⟩ 2 2 [.int .i64 (p1 : Int), .int .i64 (p2 : Int)] rfl rfl (two_new _ _ _ _) (by simp [Value.oneCell']) (by unfold maxLen; omega) (by omega) HB3.size ?_))
        intro v' w4 hown' hgrow _
        have HB4 : Hid (Below w.heap.size w w4) := grown_below HB3 (Nat.le_refl _) HO3 hgrow
        have HO4 : Hid (w4.ownsRow w.heap.size 3 1 v' (2 * j + 2) (L ++ [.int .i64 (p1 : Int), .int .i64 (p2 : Int)])) := hown'
        clear hown' hgrow HB3 HO3
        go_wp2
        go_roundw
        case rel => exact ⟨j + 1, r, by go_num, rfl, by omega, hr8, by rw [HR.out]; exact stt_next _ _ _, by rw [show 2 * (j + 1) = 2 * j + 2 by omega, ← ils_spd, ← HL.out, ← HR.out]; rw [HP1.out, HP2.out] at HO4; exact HO4.out, HB4.out⟩
        case measure => simp [intOf]; omega
    · obtain rfl : j = n + 2 := by omega
      go_wp2
      go_ret2
      exact ⟨_, rfl, hrel.out.2.1, hrel.out.2.2⟩

set_option maxHeartbeats 8000000 in
theorem sSpr_3 {w : World} {v : Value} {n : Nat} {xs : Nat → Int} (hv : Il w v n xs) (h : Bts n xs) (hn : n ≤ 120) {a b : Nat} (hab : Cd 3 a b) :
    Calls Try.prog 23 #[.int .i64 3, .int .i64 (a : Int), .int .i64 (b : Int), v] w fun e w' => Pst w w' e (2 * (n + 3)) (spd 3 a b (ub n xs)) true := by
  obtain ⟨i0, hi, hz0, hz1, hz2⟩ := info_parts Try.info3
  have ha8 := mk_lt (by omega) hab.2.1
  have hb8 := mk_lt (by omega) hab.2.2
  have i1 := sBits_any (hv.below (below_one w (.cells #[] 3))) (by omega)
  rw [decide_eq_true h] at i1
  have i2 := sCoder_any 3 (a : Int) (b : Int)
  rw [decide_eq_true hab] at i2
  clear hab
  have HBT : Hid (∀ k, k < n → Bit (xs k)) := h.2
  have HU : Hid (∀ i, ub n xs i ≤ 1) := ub_le h.2
  have OW : Hid ((w.alloc (.cells #[] 3)).ownsRow w.heap.size 3 1 (.slice (some ⟨w.heap.size, 0, none⟩) 0 0) (2 * 0) (ils (spd 3 a b (ub n xs)) (2 * 0))) := own_empty w 3 1
  have BL : Hid (Below w.heap.size w (w.alloc (.cells #[] 3))) := below_one _ _
  obtain ⟨ao, cap, rfl, hcap, hc⟩ := hv
  have HC : Hid (0 < n → ∃ b off, ao = some ⟨b, off, none⟩ ∧ b < w.heap.size ∧ ∀ k, k < n → w.cell? ⟨b, off + k, none⟩ = some (.int .i64 (xs k))) := hc
  clear hc h
  go_enter Try.func23, Try.ntmps23
  go_wp2_with (first | (go_at_call 53; (with_reducible refine (i1).mono ?_); rintro e w' ⟨rfl, hw⟩; obtain rfl := hw.symm) | (go_at_call 44; (with_reducible refine (i2 _).mono ?_); rintro e w' ⟨rfl, hw⟩; obtain rfl := hw.symm))
  clear i1 i2
  generalize w.alloc (.cells #[] 3) = W at *
  go_loopw [10, 11, 12, 13] (fun o r i _ wr => ∃ (j q : Nat), i = .int .i64 j ∧ r = .int .i64 q ∧ j ≤ n + 3 ∧ q < 128 ∧ Hid (q % 2 ^ 3 = stt 3 (ub n xs) j ∧ wr.ownsRow w.heap.size 3 1 o (2 * j) (ils (spd 3 a b (ub n xs)) (2 * j)) ∧ Below w.heap.size w wr)) (fun _ _ i _ _ => n + 3 - (intOf i).toNat)
  case atStart => exact ⟨0, 0, rfl, rfl, by omega, by omega, rfl, OW.out, BL.out⟩
  case round =>
    obtain ⟨j, q, rfl, rfl, hj, hq, hrel⟩ := hrel
    by_cases h1 : j < n + 3
    · have HO := hrel.out.2.1
      have HB := hrel.out.2.2
      obtain ⟨x, hx⟩ : ∃ x, x = ub n xs j := ⟨_, rfl⟩
      have hx1 : x ≤ 1 := by rw [hx]; exact HU.out j
      obtain ⟨r, hr⟩ : ∃ r, r = rgg 3 (ub n xs) j := ⟨_, rfl⟩
      have hr8 : r < 128 := by rw [hr]; exact rgg_lt (by omega) (HU.out j)
      have hqr : (2 * q + x) % 16 = r := by rw [hr, hx]; have := reg_mod (M := 3) (r := q) (by omega) (HU.out j); rw [hrel.out.1] at this; exact this
      have e1 : (2 * (q : Int) + (x : Int)).tmod 16 = (r : Int) := by rw [Int.tmod_eq_emod_of_nonneg (by omega)]; omega
      have e2 : (2 * (q : Int) + (x : Int)) % 16 = (r : Int) := by omega
      have a1 := and_nat (a := r) (b := a) (by omega) (by omega)
      have a2 := and_nat (a := r) (b := b) (by omega) (by omega)
      have j1 := l14_any (r &&& a) (Nat.lt_of_le_of_lt Nat.and_le_left (by omega))
      have j2 := l14_any (r &&& b) (Nat.lt_of_le_of_lt Nat.and_le_left (by omega))
      obtain ⟨p1, hp1⟩ : ∃ p, p = par (r &&& a) := ⟨_, rfl⟩
      obtain ⟨p2, hp2⟩ : ∃ p, p = par (r &&& b) := ⟨_, rfl⟩
      have f1 : ((ones (r &&& a) : Nat) : Int).tmod 2 = (p1 : Int) := by rw [Int.tmod_eq_emod_of_nonneg (by omega), hp1]; unfold par; omega
      have f2 : ((ones (r &&& a) : Nat) : Int) % 2 = (p1 : Int) := by rw [hp1]; unfold par; omega
      have f3 : ((ones (r &&& b) : Nat) : Int).tmod 2 = (p2 : Int) := by rw [Int.tmod_eq_emod_of_nonneg (by omega), hp2]; unfold par; omega
      have f4 : ((ones (r &&& b) : Nat) : Int) % 2 = (p2 : Int) := by rw [hp2]; unfold par; omega
      have l1 := ones_le (r &&& a)
      have l2 := ones_le (r &&& b)
      have HR : Hid (r = rgg 3 (ub n xs) j) := hr
      have HP1 : Hid (p1 = par (r &&& a)) := hp1
      have HP2 : Hid (p2 = par (r &&& b)) := hp2
      have HX : Hid (x = ub n xs j) := hx
      generalize ones (r &&& a) = o1 at *
      generalize ones (r &&& b) = o2 at *
      clear hr hp1 hp2 hqr hx
      obtain ⟨ra, hra⟩ : ∃ y, y = (r &&& a) := ⟨_, rfl⟩
      obtain ⟨rb, hrb⟩ : ∃ y, y = (r &&& b) := ⟨_, rfl⟩
      rw [← hra] at a1 j1
      rw [← hrb] at a2 j2
      clear hra hrb
      obtain ⟨L, hL⟩ : ∃ L, L = ils (spd 3 a b (ub n xs)) (2 * j) := ⟨_, rfl⟩
      have HL : Hid (L = ils (spd 3 a b (ub n xs)) (2 * j)) := hL
      rw [← hL] at HO
      clear hL
      by_cases h2 : j < n
      · obtain ⟨b9, off, rfl, hlt, hcell⟩ := HC.out (by omega)
        have c := (hrel.out.2.2.cell (p := ⟨b9, off + j, none⟩) hlt).trans (hcell j h2)
        have hxx : xs j = (x : Int) := by rw [HX.out]; unfold ub; rw [if_pos h2]; rcases HBT.out j h2 with e | e <;> rw [e] <;> rfl
        rw [hxx] at c
        clear hcell hrel hxx
        have hb3 := below_one wr (.cells #[.int .i64 (p1 : Int), .int .i64 (p2 : Int)] 3)
        have HO3 := own_below HO hb3
        have HB3 := bstep HB hb3
        clear hb3
        go_wp2_with (first | (go_at_call 54; (with_reducible refine (j1 _).mono ?_); rintro e w' ⟨rfl, hw⟩; obtain rfl := hw.symm) | (go_at_call 54; (with_reducible refine (j2 _).mono ?_); rintro e w' ⟨rfl, hw⟩; obtain rfl := hw.symm) | (at_builtin; refine wpList_append_own _ rfl _ _ 24 rfl w.heap.size 3 i0 (.int .i64 0) 1 8 Try.underlying24 hi hz0 hz1 hz2 rfl (by decide) _ _ _ rfl HO3 ⟨wr.heap.size, 0, none⟩ 2 2 [.int .i64 (p1 : Int), .int .i64 (p2 : Int)] rfl rfl (two_new _ _ _ _) (by simp [Value.oneCell']) (by unfold maxLen; omega) (by omega) HB3.size ?_))
        intro v' w4 hown' hgrow _
        have HB4 : Hid (Below w.heap.size w w4) := grown_below HB3 (Nat.le_refl _) HO3 hgrow
        have HO4 : Hid (w4.ownsRow w.heap.size 3 1 v' (2 * j + 2) (L ++ [.int .i64 (p1 : Int), .int .i64 (p2 : Int)])) := hown'
        clear hown' hgrow HB3 HO3
        go_wp2
        go_roundw
        case rel => exact ⟨j + 1, r, by go_num, rfl, by omega, hr8, by rw [HR.out]; exact stt_next _ _ _, by rw [show 2 * (j + 1) = 2 * j + 2 by omega, ← ils_spd, ← HL.out, ← HR.out]; rw [HP1.out, HP2.out] at HO4; exact HO4.out, HB4.out⟩
        case measure => simp [intOf]; omega
      · obtain rfl : x = 0 := by rw [HX.out]; unfold ub; rw [if_neg h2]
        have e3 : (2 * (q : Int)).tmod 16 = (r : Int) := by rw [← e1]; simp
        have e4 : (2 * (q : Int)) % 16 = (r : Int) := by rw [← e2]; simp
        clear hrel e1 e2
        have hb3 := below_one wr (.cells #[.int .i64 (p1 : Int), .int .i64 (p2 : Int)] 3)
        have HO3 := own_below HO hb3
        have HB3 := bstep HB hb3
        clear hb3
        go_wp2_with (first | (go_at_call 54; (with_reducible refine (j1 _).mono ?_); rintro e w' ⟨rfl, hw⟩; obtain rfl := hw.symm) | (go_at_call 54; (with_reducible refine (j2 _).mono ?_); rintro e w' ⟨rfl, hw⟩; obtain rfl := hw.symm) | (at_builtin; refine wpList_append_own _ rfl _ _ 24 rfl w.heap.size 3 i0 (.int .i64 0) 1 8 Try.underlying24 hi hz0 hz1 hz2 rfl (by decide) _ _ _ rfl HO3 ⟨wr.heap.size, 0, none⟩ 2 2 [.int .i64 (p1 : Int), .int .i64 (p2 : Int)] rfl rfl (two_new _ _ _ _) (by simp [Value.oneCell']) (by unfold maxLen; omega) (by omega) HB3.size ?_))
        intro v' w4 hown' hgrow _
        have HB4 : Hid (Below w.heap.size w w4) := grown_below HB3 (Nat.le_refl _) HO3 hgrow
        have HO4 : Hid (w4.ownsRow w.heap.size 3 1 v' (2 * j + 2) (L ++ [.int .i64 (p1 : Int), .int .i64 (p2 : Int)])) := hown'
        clear hown' hgrow HB3 HO3
        go_wp2
        go_roundw
        case rel => exact ⟨j + 1, r, by go_num, rfl, by omega, hr8, by rw [HR.out]; exact stt_next _ _ _, by rw [show 2 * (j + 1) = 2 * j + 2 by omega, ← ils_spd, ← HL.out, ← HR.out]; rw [HP1.out, HP2.out] at HO4; exact HO4.out, HB4.out⟩
        case measure => simp [intOf]; omega
    · obtain rfl : j = n + 3 := by omega
      go_wp2
      go_ret2
      exact ⟨_, rfl, hrel.out.2.1, hrel.out.2.2⟩

set_option maxHeartbeats 8000000 in
theorem sSpr_4 {w : World} {v : Value} {n : Nat} {xs : Nat → Int} (hv : Il w v n xs) (h : Bts n xs) (hn : n ≤ 120) {a b : Nat} (hab : Cd 4 a b) :
    Calls Try.prog 23 #[.int .i64 4, .int .i64 (a : Int), .int .i64 (b : Int), v] w fun e w' => Pst w w' e (2 * (n + 4)) (spd 4 a b (ub n xs)) true := by
  obtain ⟨i0, hi, hz0, hz1, hz2⟩ := info_parts Try.info3
  have ha8 := mk_lt (by omega) hab.2.1
  have hb8 := mk_lt (by omega) hab.2.2
  have i1 := sBits_any (hv.below (below_one w (.cells #[] 3))) (by omega)
  rw [decide_eq_true h] at i1
  have i2 := sCoder_any 4 (a : Int) (b : Int)
  rw [decide_eq_true hab] at i2
  clear hab
  have HBT : Hid (∀ k, k < n → Bit (xs k)) := h.2
  have HU : Hid (∀ i, ub n xs i ≤ 1) := ub_le h.2
  have OW : Hid ((w.alloc (.cells #[] 3)).ownsRow w.heap.size 3 1 (.slice (some ⟨w.heap.size, 0, none⟩) 0 0) (2 * 0) (ils (spd 4 a b (ub n xs)) (2 * 0))) := own_empty w 3 1
  have BL : Hid (Below w.heap.size w (w.alloc (.cells #[] 3))) := below_one _ _
  obtain ⟨ao, cap, rfl, hcap, hc⟩ := hv
  have HC : Hid (0 < n → ∃ b off, ao = some ⟨b, off, none⟩ ∧ b < w.heap.size ∧ ∀ k, k < n → w.cell? ⟨b, off + k, none⟩ = some (.int .i64 (xs k))) := hc
  clear hc h
  go_enter Try.func23, Try.ntmps23
  go_wp2_with (first | (go_at_call 53; (with_reducible refine (i1).mono ?_); rintro e w' ⟨rfl, hw⟩; obtain rfl := hw.symm) | (go_at_call 44; (with_reducible refine (i2 _).mono ?_); rintro e w' ⟨rfl, hw⟩; obtain rfl := hw.symm))
  clear i1 i2
  generalize w.alloc (.cells #[] 3) = W at *
  go_loopw [10, 11, 12, 13] (fun o r i _ wr => ∃ (j q : Nat), i = .int .i64 j ∧ r = .int .i64 q ∧ j ≤ n + 4 ∧ q < 128 ∧ Hid (q % 2 ^ 4 = stt 4 (ub n xs) j ∧ wr.ownsRow w.heap.size 3 1 o (2 * j) (ils (spd 4 a b (ub n xs)) (2 * j)) ∧ Below w.heap.size w wr)) (fun _ _ i _ _ => n + 4 - (intOf i).toNat)
  case atStart => exact ⟨0, 0, rfl, rfl, by omega, by omega, rfl, OW.out, BL.out⟩
  case round =>
    obtain ⟨j, q, rfl, rfl, hj, hq, hrel⟩ := hrel
    by_cases h1 : j < n + 4
    · have HO := hrel.out.2.1
      have HB := hrel.out.2.2
      obtain ⟨x, hx⟩ : ∃ x, x = ub n xs j := ⟨_, rfl⟩
      have hx1 : x ≤ 1 := by rw [hx]; exact HU.out j
      obtain ⟨r, hr⟩ : ∃ r, r = rgg 4 (ub n xs) j := ⟨_, rfl⟩
      have hr8 : r < 128 := by rw [hr]; exact rgg_lt (by omega) (HU.out j)
      have hqr : (2 * q + x) % 32 = r := by rw [hr, hx]; have := reg_mod (M := 4) (r := q) (by omega) (HU.out j); rw [hrel.out.1] at this; exact this
      have e1 : (2 * (q : Int) + (x : Int)).tmod 32 = (r : Int) := by rw [Int.tmod_eq_emod_of_nonneg (by omega)]; omega
      have e2 : (2 * (q : Int) + (x : Int)) % 32 = (r : Int) := by omega
      have a1 := and_nat (a := r) (b := a) (by omega) (by omega)
      have a2 := and_nat (a := r) (b := b) (by omega) (by omega)
      have j1 := l14_any (r &&& a) (Nat.lt_of_le_of_lt Nat.and_le_left (by omega))
      have j2 := l14_any (r &&& b) (Nat.lt_of_le_of_lt Nat.and_le_left (by omega))
      obtain ⟨p1, hp1⟩ : ∃ p, p = par (r &&& a) := ⟨_, rfl⟩
      obtain ⟨p2, hp2⟩ : ∃ p, p = par (r &&& b) := ⟨_, rfl⟩
      have f1 : ((ones (r &&& a) : Nat) : Int).tmod 2 = (p1 : Int) := by rw [Int.tmod_eq_emod_of_nonneg (by omega), hp1]; unfold par; omega
      have f2 : ((ones (r &&& a) : Nat) : Int) % 2 = (p1 : Int) := by rw [hp1]; unfold par; omega
      have f3 : ((ones (r &&& b) : Nat) : Int).tmod 2 = (p2 : Int) := by rw [Int.tmod_eq_emod_of_nonneg (by omega), hp2]; unfold par; omega
      have f4 : ((ones (r &&& b) : Nat) : Int) % 2 = (p2 : Int) := by rw [hp2]; unfold par; omega
      have l1 := ones_le (r &&& a)
      have l2 := ones_le (r &&& b)
      have HR : Hid (r = rgg 4 (ub n xs) j) := hr
      have HP1 : Hid (p1 = par (r &&& a)) := hp1
      have HP2 : Hid (p2 = par (r &&& b)) := hp2
      have HX : Hid (x = ub n xs j) := hx
      generalize ones (r &&& a) = o1 at *
      generalize ones (r &&& b) = o2 at *
      clear hr hp1 hp2 hqr hx
      obtain ⟨ra, hra⟩ : ∃ y, y = (r &&& a) := ⟨_, rfl⟩
      obtain ⟨rb, hrb⟩ : ∃ y, y = (r &&& b) := ⟨_, rfl⟩
      rw [← hra] at a1 j1
      rw [← hrb] at a2 j2
      clear hra hrb
      obtain ⟨L, hL⟩ : ∃ L, L = ils (spd 4 a b (ub n xs)) (2 * j) := ⟨_, rfl⟩
      have HL : Hid (L = ils (spd 4 a b (ub n xs)) (2 * j)) := hL
      rw [← hL] at HO
      clear hL
      by_cases h2 : j < n
      · obtain ⟨b9, off, rfl, hlt, hcell⟩ := HC.out (by omega)
        have c := (hrel.out.2.2.cell (p := ⟨b9, off + j, none⟩) hlt).trans (hcell j h2)
        have hxx : xs j = (x : Int) := by rw [HX.out]; unfold ub; rw [if_pos h2]; rcases HBT.out j h2 with e | e <;> rw [e] <;> rfl
        rw [hxx] at c
        clear hcell hrel hxx
        have hb3 := below_one wr (.cells #[.int .i64 (p1 : Int), .int .i64 (p2 : Int)] 3)
        have HO3 := own_below HO hb3
        have HB3 := bstep HB hb3
        clear hb3
        go_wp2_with (first | (go_at_call 54; (with_reducible refine (j1 _).mono ?_); rintro e w' ⟨rfl, hw⟩; obtain rfl := hw.symm) | (go_at_call 54; (with_reducible refine (j2 _).mono ?_); rintro e w' ⟨rfl, hw⟩; obtain rfl := hw.symm) | (at_builtin; refine wpList_append_own _ rfl _ _ 24 rfl w.heap.size 3 i0 (.int .i64 0) 1 8 Try.underlying24 hi hz0 hz1 hz2 rfl (by decide) _ _ _ rfl HO3 ⟨wr.heap.size, 0, none⟩ 2 2 [.int .i64 (p1 : Int), .int .i64 (p2 : Int)] rfl rfl (two_new _ _ _ _) (by simp [Value.oneCell']) (by unfold maxLen; omega) (by omega) HB3.size ?_))
        intro v' w4 hown' hgrow _
        have HB4 : Hid (Below w.heap.size w w4) := grown_below HB3 (Nat.le_refl _) HO3 hgrow
        have HO4 : Hid (w4.ownsRow w.heap.size 3 1 v' (2 * j + 2) (L ++ [.int .i64 (p1 : Int), .int .i64 (p2 : Int)])) := hown'
        clear hown' hgrow HB3 HO3
        go_wp2
        go_roundw
        case rel => exact ⟨j + 1, r, by go_num, rfl, by omega, hr8, by rw [HR.out]; exact stt_next _ _ _, by rw [show 2 * (j + 1) = 2 * j + 2 by omega, ← ils_spd, ← HL.out, ← HR.out]; rw [HP1.out, HP2.out] at HO4; exact HO4.out, HB4.out⟩
        case measure => simp [intOf]; omega
      · obtain rfl : x = 0 := by rw [HX.out]; unfold ub; rw [if_neg h2]
        have e3 : (2 * (q : Int)).tmod 32 = (r : Int) := by rw [← e1]; simp
        have e4 : (2 * (q : Int)) % 32 = (r : Int) := by rw [← e2]; simp
        clear hrel e1 e2
        have hb3 := below_one wr (.cells #[.int .i64 (p1 : Int), .int .i64 (p2 : Int)] 3)
        have HO3 := own_below HO hb3
        have HB3 := bstep HB hb3
        clear hb3
        go_wp2_with (first | (go_at_call 54; (with_reducible refine (j1 _).mono ?_); rintro e w' ⟨rfl, hw⟩; obtain rfl := hw.symm) | (go_at_call 54; (with_reducible refine (j2 _).mono ?_); rintro e w' ⟨rfl, hw⟩; obtain rfl := hw.symm) | (at_builtin; refine wpList_append_own _ rfl _ _ 24 rfl w.heap.size 3 i0 (.int .i64 0) 1 8 Try.underlying24 hi hz0 hz1 hz2 rfl (by decide) _ _ _ rfl HO3 ⟨wr.heap.size, 0, none⟩ 2 2 [.int .i64 (p1 : Int), .int .i64 (p2 : Int)] rfl rfl (two_new _ _ _ _) (by simp [Value.oneCell']) (by unfold maxLen; omega) (by omega) HB3.size ?_))
        intro v' w4 hown' hgrow _
        have HB4 : Hid (Below w.heap.size w w4) := grown_below HB3 (Nat.le_refl _) HO3 hgrow
        have HO4 : Hid (w4.ownsRow w.heap.size 3 1 v' (2 * j + 2) (L ++ [.int .i64 (p1 : Int), .int .i64 (p2 : Int)])) := hown'
        clear hown' hgrow HB3 HO3
        go_wp2
        go_roundw
        case rel => exact ⟨j + 1, r, by go_num, rfl, by omega, hr8, by rw [HR.out]; exact stt_next _ _ _, by rw [show 2 * (j + 1) = 2 * j + 2 by omega, ← ils_spd, ← HL.out, ← HR.out]; rw [HP1.out, HP2.out] at HO4; exact HO4.out, HB4.out⟩
        case measure => simp [intOf]; omega
    · obtain rfl : j = n + 4 := by omega
      go_wp2
      go_ret2
      exact ⟨_, rfl, hrel.out.2.1, hrel.out.2.2⟩

set_option maxHeartbeats 8000000 in
theorem sSpr_5 {w : World} {v : Value} {n : Nat} {xs : Nat → Int} (hv : Il w v n xs) (h : Bts n xs) (hn : n ≤ 120) {a b : Nat} (hab : Cd 5 a b) :
    Calls Try.prog 23 #[.int .i64 5, .int .i64 (a : Int), .int .i64 (b : Int), v] w fun e w' => Pst w w' e (2 * (n + 5)) (spd 5 a b (ub n xs)) true := by
  obtain ⟨i0, hi, hz0, hz1, hz2⟩ := info_parts Try.info3
  have ha8 := mk_lt (by omega) hab.2.1
  have hb8 := mk_lt (by omega) hab.2.2
  have i1 := sBits_any (hv.below (below_one w (.cells #[] 3))) (by omega)
  rw [decide_eq_true h] at i1
  have i2 := sCoder_any 5 (a : Int) (b : Int)
  rw [decide_eq_true hab] at i2
  clear hab
  have HBT : Hid (∀ k, k < n → Bit (xs k)) := h.2
  have HU : Hid (∀ i, ub n xs i ≤ 1) := ub_le h.2
  have OW : Hid ((w.alloc (.cells #[] 3)).ownsRow w.heap.size 3 1 (.slice (some ⟨w.heap.size, 0, none⟩) 0 0) (2 * 0) (ils (spd 5 a b (ub n xs)) (2 * 0))) := own_empty w 3 1
  have BL : Hid (Below w.heap.size w (w.alloc (.cells #[] 3))) := below_one _ _
  obtain ⟨ao, cap, rfl, hcap, hc⟩ := hv
  have HC : Hid (0 < n → ∃ b off, ao = some ⟨b, off, none⟩ ∧ b < w.heap.size ∧ ∀ k, k < n → w.cell? ⟨b, off + k, none⟩ = some (.int .i64 (xs k))) := hc
  clear hc h
  go_enter Try.func23, Try.ntmps23
  go_wp2_with (first | (go_at_call 53; (with_reducible refine (i1).mono ?_); rintro e w' ⟨rfl, hw⟩; obtain rfl := hw.symm) | (go_at_call 44; (with_reducible refine (i2 _).mono ?_); rintro e w' ⟨rfl, hw⟩; obtain rfl := hw.symm))
  clear i1 i2
  generalize w.alloc (.cells #[] 3) = W at *
  go_loopw [10, 11, 12, 13] (fun o r i _ wr => ∃ (j q : Nat), i = .int .i64 j ∧ r = .int .i64 q ∧ j ≤ n + 5 ∧ q < 128 ∧ Hid (q % 2 ^ 5 = stt 5 (ub n xs) j ∧ wr.ownsRow w.heap.size 3 1 o (2 * j) (ils (spd 5 a b (ub n xs)) (2 * j)) ∧ Below w.heap.size w wr)) (fun _ _ i _ _ => n + 5 - (intOf i).toNat)
  case atStart => exact ⟨0, 0, rfl, rfl, by omega, by omega, rfl, OW.out, BL.out⟩
  case round =>
    obtain ⟨j, q, rfl, rfl, hj, hq, hrel⟩ := hrel
    by_cases h1 : j < n + 5
    · have HO := hrel.out.2.1
      have HB := hrel.out.2.2
      obtain ⟨x, hx⟩ : ∃ x, x = ub n xs j := ⟨_, rfl⟩
      have hx1 : x ≤ 1 := by rw [hx]; exact HU.out j
      obtain ⟨r, hr⟩ : ∃ r, r = rgg 5 (ub n xs) j := ⟨_, rfl⟩
      have hr8 : r < 128 := by rw [hr]; exact rgg_lt (by omega) (HU.out j)
      have hqr : (2 * q + x) % 64 = r := by rw [hr, hx]; have := reg_mod (M := 5) (r := q) (by omega) (HU.out j); rw [hrel.out.1] at this; exact this
      have e1 : (2 * (q : Int) + (x : Int)).tmod 64 = (r : Int) := by rw [Int.tmod_eq_emod_of_nonneg (by omega)]; omega
      have e2 : (2 * (q : Int) + (x : Int)) % 64 = (r : Int) := by omega
      have a1 := and_nat (a := r) (b := a) (by omega) (by omega)
      have a2 := and_nat (a := r) (b := b) (by omega) (by omega)
      have j1 := l14_any (r &&& a) (Nat.lt_of_le_of_lt Nat.and_le_left (by omega))
      have j2 := l14_any (r &&& b) (Nat.lt_of_le_of_lt Nat.and_le_left (by omega))
      obtain ⟨p1, hp1⟩ : ∃ p, p = par (r &&& a) := ⟨_, rfl⟩
      obtain ⟨p2, hp2⟩ : ∃ p, p = par (r &&& b) := ⟨_, rfl⟩
      have f1 : ((ones (r &&& a) : Nat) : Int).tmod 2 = (p1 : Int) := by rw [Int.tmod_eq_emod_of_nonneg (by omega), hp1]; unfold par; omega
      have f2 : ((ones (r &&& a) : Nat) : Int) % 2 = (p1 : Int) := by rw [hp1]; unfold par; omega
      have f3 : ((ones (r &&& b) : Nat) : Int).tmod 2 = (p2 : Int) := by rw [Int.tmod_eq_emod_of_nonneg (by omega), hp2]; unfold par; omega
      have f4 : ((ones (r &&& b) : Nat) : Int) % 2 = (p2 : Int) := by rw [hp2]; unfold par; omega
      have l1 := ones_le (r &&& a)
      have l2 := ones_le (r &&& b)
      have HR : Hid (r = rgg 5 (ub n xs) j) := hr
      have HP1 : Hid (p1 = par (r &&& a)) := hp1
      have HP2 : Hid (p2 = par (r &&& b)) := hp2
      have HX : Hid (x = ub n xs j) := hx
      generalize ones (r &&& a) = o1 at *
      generalize ones (r &&& b) = o2 at *
      clear hr hp1 hp2 hqr hx
      obtain ⟨ra, hra⟩ : ∃ y, y = (r &&& a) := ⟨_, rfl⟩
      obtain ⟨rb, hrb⟩ : ∃ y, y = (r &&& b) := ⟨_, rfl⟩
      rw [← hra] at a1 j1
      rw [← hrb] at a2 j2
      clear hra hrb
      obtain ⟨L, hL⟩ : ∃ L, L = ils (spd 5 a b (ub n xs)) (2 * j) := ⟨_, rfl⟩
      have HL : Hid (L = ils (spd 5 a b (ub n xs)) (2 * j)) := hL
      rw [← hL] at HO
      clear hL
      by_cases h2 : j < n
      · obtain ⟨b9, off, rfl, hlt, hcell⟩ := HC.out (by omega)
        have c := (hrel.out.2.2.cell (p := ⟨b9, off + j, none⟩) hlt).trans (hcell j h2)
        have hxx : xs j = (x : Int) := by rw [HX.out]; unfold ub; rw [if_pos h2]; rcases HBT.out j h2 with e | e <;> rw [e] <;> rfl
        rw [hxx] at c
        clear hcell hrel hxx
        have hb3 := below_one wr (.cells #[.int .i64 (p1 : Int), .int .i64 (p2 : Int)] 3)
        have HO3 := own_below HO hb3
        have HB3 := bstep HB hb3
        clear hb3
        go_wp2_with (first | (go_at_call 54; (with_reducible refine (j1 _).mono ?_); rintro e w' ⟨rfl, hw⟩; obtain rfl := hw.symm) | (go_at_call 54; (with_reducible refine (j2 _).mono ?_); rintro e w' ⟨rfl, hw⟩; obtain rfl := hw.symm) | (at_builtin; refine wpList_append_own _ rfl _ _ 24 rfl w.heap.size 3 i0 (.int .i64 0) 1 8 Try.underlying24 hi hz0 hz1 hz2 rfl (by decide) _ _ _ rfl HO3 ⟨wr.heap.size, 0, none⟩ 2 2 [.int .i64 (p1 : Int), .int .i64 (p2 : Int)] rfl rfl (two_new _ _ _ _) (by simp [Value.oneCell']) (by unfold maxLen; omega) (by omega) HB3.size ?_))
        intro v' w4 hown' hgrow _
        have HB4 : Hid (Below w.heap.size w w4) := grown_below HB3 (Nat.le_refl _) HO3 hgrow
        have HO4 : Hid (w4.ownsRow w.heap.size 3 1 v' (2 * j + 2) (L ++ [.int .i64 (p1 : Int), .int .i64 (p2 : Int)])) := hown'
        clear hown' hgrow HB3 HO3
        go_wp2
        go_roundw
        case rel => exact ⟨j + 1, r, by go_num, rfl, by omega, hr8, by rw [HR.out]; exact stt_next _ _ _, by rw [show 2 * (j + 1) = 2 * j + 2 by omega, ← ils_spd, ← HL.out, ← HR.out]; rw [HP1.out, HP2.out] at HO4; exact HO4.out, HB4.out⟩
        case measure => simp [intOf]; omega
      · obtain rfl : x = 0 := by rw [HX.out]; unfold ub; rw [if_neg h2]
        have e3 : (2 * (q : Int)).tmod 64 = (r : Int) := by rw [← e1]; simp
        have e4 : (2 * (q : Int)) % 64 = (r : Int) := by rw [← e2]; simp
        clear hrel e1 e2
        have hb3 := below_one wr (.cells #[.int .i64 (p1 : Int), .int .i64 (p2 : Int)] 3)
        have HO3 := own_below HO hb3
        have HB3 := bstep HB hb3
        clear hb3
        go_wp2_with (first | (go_at_call 54; (with_reducible refine (j1 _).mono ?_); rintro e w' ⟨rfl, hw⟩; obtain rfl := hw.symm) | (go_at_call 54; (with_reducible refine (j2 _).mono ?_); rintro e w' ⟨rfl, hw⟩; obtain rfl := hw.symm) | (at_builtin; refine wpList_append_own _ rfl _ _ 24 rfl w.heap.size 3 i0 (.int .i64 0) 1 8 Try.underlying24 hi hz0 hz1 hz2 rfl (by decide) _ _ _ rfl HO3 ⟨wr.heap.size, 0, none⟩ 2 2 [.int .i64 (p1 : Int), .int .i64 (p2 : Int)] rfl rfl (two_new _ _ _ _) (by simp [Value.oneCell']) (by unfold maxLen; omega) (by omega) HB3.size ?_))
        intro v' w4 hown' hgrow _
        have HB4 : Hid (Below w.heap.size w w4) := grown_below HB3 (Nat.le_refl _) HO3 hgrow
        have HO4 : Hid (w4.ownsRow w.heap.size 3 1 v' (2 * j + 2) (L ++ [.int .i64 (p1 : Int), .int .i64 (p2 : Int)])) := hown'
        clear hown' hgrow HB3 HO3
        go_wp2
        go_roundw
        case rel => exact ⟨j + 1, r, by go_num, rfl, by omega, hr8, by rw [HR.out]; exact stt_next _ _ _, by rw [show 2 * (j + 1) = 2 * j + 2 by omega, ← ils_spd, ← HL.out, ← HR.out]; rw [HP1.out, HP2.out] at HO4; exact HO4.out, HB4.out⟩
        case measure => simp [intOf]; omega
    · obtain rfl : j = n + 5 := by omega
      go_wp2
      go_ret2
      exact ⟨_, rfl, hrel.out.2.1, hrel.out.2.2⟩

set_option maxHeartbeats 8000000 in
theorem sSpr_6 {w : World} {v : Value} {n : Nat} {xs : Nat → Int} (hv : Il w v n xs) (h : Bts n xs) (hn : n ≤ 120) {a b : Nat} (hab : Cd 6 a b) :
    Calls Try.prog 23 #[.int .i64 6, .int .i64 (a : Int), .int .i64 (b : Int), v] w fun e w' => Pst w w' e (2 * (n + 6)) (spd 6 a b (ub n xs)) true := by
  obtain ⟨i0, hi, hz0, hz1, hz2⟩ := info_parts Try.info3
  have ha8 := mk_lt (by omega) hab.2.1
  have hb8 := mk_lt (by omega) hab.2.2
  have i1 := sBits_any (hv.below (below_one w (.cells #[] 3))) (by omega)
  rw [decide_eq_true h] at i1
  have i2 := sCoder_any 6 (a : Int) (b : Int)
  rw [decide_eq_true hab] at i2
  clear hab
  have HBT : Hid (∀ k, k < n → Bit (xs k)) := h.2
  have HU : Hid (∀ i, ub n xs i ≤ 1) := ub_le h.2
  have OW : Hid ((w.alloc (.cells #[] 3)).ownsRow w.heap.size 3 1 (.slice (some ⟨w.heap.size, 0, none⟩) 0 0) (2 * 0) (ils (spd 6 a b (ub n xs)) (2 * 0))) := own_empty w 3 1
  have BL : Hid (Below w.heap.size w (w.alloc (.cells #[] 3))) := below_one _ _
  obtain ⟨ao, cap, rfl, hcap, hc⟩ := hv
  have HC : Hid (0 < n → ∃ b off, ao = some ⟨b, off, none⟩ ∧ b < w.heap.size ∧ ∀ k, k < n → w.cell? ⟨b, off + k, none⟩ = some (.int .i64 (xs k))) := hc
  clear hc h
  go_enter Try.func23, Try.ntmps23
  go_wp2_with (first | (go_at_call 53; (with_reducible refine (i1).mono ?_); rintro e w' ⟨rfl, hw⟩; obtain rfl := hw.symm) | (go_at_call 44; (with_reducible refine (i2 _).mono ?_); rintro e w' ⟨rfl, hw⟩; obtain rfl := hw.symm))
  clear i1 i2
  generalize w.alloc (.cells #[] 3) = W at *
  go_loopw [10, 11, 12, 13] (fun o r i _ wr => ∃ (j q : Nat), i = .int .i64 j ∧ r = .int .i64 q ∧ j ≤ n + 6 ∧ q < 128 ∧ Hid (q % 2 ^ 6 = stt 6 (ub n xs) j ∧ wr.ownsRow w.heap.size 3 1 o (2 * j) (ils (spd 6 a b (ub n xs)) (2 * j)) ∧ Below w.heap.size w wr)) (fun _ _ i _ _ => n + 6 - (intOf i).toNat)
  case atStart => exact ⟨0, 0, rfl, rfl, by omega, by omega, rfl, OW.out, BL.out⟩
  case round =>
    obtain ⟨j, q, rfl, rfl, hj, hq, hrel⟩ := hrel
    by_cases h1 : j < n + 6
    · have HO := hrel.out.2.1
      have HB := hrel.out.2.2
      obtain ⟨x, hx⟩ : ∃ x, x = ub n xs j := ⟨_, rfl⟩
      have hx1 : x ≤ 1 := by rw [hx]; exact HU.out j
      obtain ⟨r, hr⟩ : ∃ r, r = rgg 6 (ub n xs) j := ⟨_, rfl⟩
      have hr8 : r < 128 := by rw [hr]; exact rgg_lt (by omega) (HU.out j)
      have hqr : (2 * q + x) % 128 = r := by rw [hr, hx]; have := reg_mod (M := 6) (r := q) (by omega) (HU.out j); rw [hrel.out.1] at this; exact this
      have e1 : (2 * (q : Int) + (x : Int)).tmod 128 = (r : Int) := by rw [Int.tmod_eq_emod_of_nonneg (by omega)]; omega
      have e2 : (2 * (q : Int) + (x : Int)) % 128 = (r : Int) := by omega
      have a1 := and_nat (a := r) (b := a) (by omega) (by omega)
      have a2 := and_nat (a := r) (b := b) (by omega) (by omega)
      have j1 := l14_any (r &&& a) (Nat.lt_of_le_of_lt Nat.and_le_left (by omega))
      have j2 := l14_any (r &&& b) (Nat.lt_of_le_of_lt Nat.and_le_left (by omega))
      obtain ⟨p1, hp1⟩ : ∃ p, p = par (r &&& a) := ⟨_, rfl⟩
      obtain ⟨p2, hp2⟩ : ∃ p, p = par (r &&& b) := ⟨_, rfl⟩
      have f1 : ((ones (r &&& a) : Nat) : Int).tmod 2 = (p1 : Int) := by rw [Int.tmod_eq_emod_of_nonneg (by omega), hp1]; unfold par; omega
      have f2 : ((ones (r &&& a) : Nat) : Int) % 2 = (p1 : Int) := by rw [hp1]; unfold par; omega
      have f3 : ((ones (r &&& b) : Nat) : Int).tmod 2 = (p2 : Int) := by rw [Int.tmod_eq_emod_of_nonneg (by omega), hp2]; unfold par; omega
      have f4 : ((ones (r &&& b) : Nat) : Int) % 2 = (p2 : Int) := by rw [hp2]; unfold par; omega
      have l1 := ones_le (r &&& a)
      have l2 := ones_le (r &&& b)
      have HR : Hid (r = rgg 6 (ub n xs) j) := hr
      have HP1 : Hid (p1 = par (r &&& a)) := hp1
      have HP2 : Hid (p2 = par (r &&& b)) := hp2
      have HX : Hid (x = ub n xs j) := hx
      generalize ones (r &&& a) = o1 at *
      generalize ones (r &&& b) = o2 at *
      clear hr hp1 hp2 hqr hx
      obtain ⟨ra, hra⟩ : ∃ y, y = (r &&& a) := ⟨_, rfl⟩
      obtain ⟨rb, hrb⟩ : ∃ y, y = (r &&& b) := ⟨_, rfl⟩
      rw [← hra] at a1 j1
      rw [← hrb] at a2 j2
      clear hra hrb
      obtain ⟨L, hL⟩ : ∃ L, L = ils (spd 6 a b (ub n xs)) (2 * j) := ⟨_, rfl⟩
      have HL : Hid (L = ils (spd 6 a b (ub n xs)) (2 * j)) := hL
      rw [← hL] at HO
      clear hL
      by_cases h2 : j < n
      · obtain ⟨b9, off, rfl, hlt, hcell⟩ := HC.out (by omega)
        have c := (hrel.out.2.2.cell (p := ⟨b9, off + j, none⟩) hlt).trans (hcell j h2)
        have hxx : xs j = (x : Int) := by rw [HX.out]; unfold ub; rw [if_pos h2]; rcases HBT.out j h2 with e | e <;> rw [e] <;> rfl
        rw [hxx] at c
        clear hcell hrel hxx
        have hb3 := below_one wr (.cells #[.int .i64 (p1 : Int), .int .i64 (p2 : Int)] 3)
        have HO3 := own_below HO hb3
        have HB3 := bstep HB hb3
        clear hb3
        go_wp2_with (first | (go_at_call 54; (with_reducible refine (j1 _).mono ?_); rintro e w' ⟨rfl, hw⟩; obtain rfl := hw.symm) | (go_at_call 54; (with_reducible refine (j2 _).mono ?_); rintro e w' ⟨rfl, hw⟩; obtain rfl := hw.symm) | (at_builtin; refine wpList_append_own _ rfl _ _ 24 rfl w.heap.size 3 i0 (.int .i64 0) 1 8 Try.underlying24 hi hz0 hz1 hz2 rfl (by decide) _ _ _ rfl HO3 ⟨wr.heap.size, 0, none⟩ 2 2 [.int .i64 (p1 : Int), .int .i64 (p2 : Int)] rfl rfl (two_new _ _ _ _) (by simp [Value.oneCell']) (by unfold maxLen; omega) (by omega) HB3.size ?_))
        intro v' w4 hown' hgrow _
        have HB4 : Hid (Below w.heap.size w w4) := grown_below HB3 (Nat.le_refl _) HO3 hgrow
        have HO4 : Hid (w4.ownsRow w.heap.size 3 1 v' (2 * j + 2) (L ++ [.int .i64 (p1 : Int), .int .i64 (p2 : Int)])) := hown'
        clear hown' hgrow HB3 HO3
        go_wp2
        go_roundw
        case rel => exact ⟨j + 1, r, by go_num, rfl, by omega, hr8, by rw [HR.out]; exact stt_next _ _ _, by rw [show 2 * (j + 1) = 2 * j + 2 by omega, ← ils_spd, ← HL.out, ← HR.out]; rw [HP1.out, HP2.out] at HO4; exact HO4.out, HB4.out⟩
        case measure => simp [intOf]; omega
      · obtain rfl : x = 0 := by rw [HX.out]; unfold ub; rw [if_neg h2]
        have e3 : (2 * (q : Int)).tmod 128 = (r : Int) := by rw [← e1]; simp
        have e4 : (2 * (q : Int)) % 128 = (r : Int) := by rw [← e2]; simp
        clear hrel e1 e2
        have hb3 := below_one wr (.cells #[.int .i64 (p1 : Int), .int .i64 (p2 : Int)] 3)
        have HO3 := own_below HO hb3
        have HB3 := bstep HB hb3
        clear hb3
        go_wp2_with (first | (go_at_call 54; (with_reducible refine (j1 _).mono ?_); rintro e w' ⟨rfl, hw⟩; obtain rfl := hw.symm) | (go_at_call 54; (with_reducible refine (j2 _).mono ?_); rintro e w' ⟨rfl, hw⟩; obtain rfl := hw.symm) | (at_builtin; refine wpList_append_own _ rfl _ _ 24 rfl w.heap.size 3 i0 (.int .i64 0) 1 8 Try.underlying24 hi hz0 hz1 hz2 rfl (by decide) _ _ _ rfl HO3 ⟨wr.heap.size, 0, none⟩ 2 2 [.int .i64 (p1 : Int), .int .i64 (p2 : Int)] rfl rfl (two_new _ _ _ _) (by simp [Value.oneCell']) (by unfold maxLen; omega) (by omega) HB3.size ?_))
        intro v' w4 hown' hgrow _
        have HB4 : Hid (Below w.heap.size w w4) := grown_below HB3 (Nat.le_refl _) HO3 hgrow
        have HO4 : Hid (w4.ownsRow w.heap.size 3 1 v' (2 * j + 2) (L ++ [.int .i64 (p1 : Int), .int .i64 (p2 : Int)])) := hown'
        clear hown' hgrow HB3 HO3
        go_wp2
        go_roundw
        case rel => exact ⟨j + 1, r, by go_num, rfl, by omega, hr8, by rw [HR.out]; exact stt_next _ _ _, by rw [show 2 * (j + 1) = 2 * j + 2 by omega, ← ils_spd, ← HL.out, ← HR.out]; rw [HP1.out, HP2.out] at HO4; exact HO4.out, HB4.out⟩
        case measure => simp [intOf]; omega
    · obtain rfl : j = n + 6 := by omega
      go_wp2
      go_ret2
      exact ⟨_, rfl, hrel.out.2.1, hrel.out.2.2⟩
end Go.Proofs.Ytgkcofjhajjjgaa
