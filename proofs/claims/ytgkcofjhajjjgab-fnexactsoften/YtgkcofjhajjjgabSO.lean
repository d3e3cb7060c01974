/- Soften: both sides. -/
import Derived.Test.YtgkcofjhajjjgabBT
namespace Go.Proofs.Ytgkcofjhajjjgab
open Go.RowKit

/-- What is told by Soften. -/
def sof (sz : Int) (xs : Nat → Int) (k : Nat) : Int := sz * (2 * xs k - 1)

theorem sof_bounds {x sz : Int} (hx : Bit x) (hs : -100 ≤ sz ∧ sz ≤ 100) : -100 ≤ sz * (2 * x - 1) ∧ sz * (2 * x - 1) ≤ 100 ∧ (2 * x - 1) * sz = sz * (2 * x - 1) := by
  rcases hx with rfl | rfl
  · refine ⟨by omega, by omega, by omega⟩
  · refine ⟨by omega, by omega, by omega⟩

set_option maxHeartbeats 1000000 in
theorem tow_any {x sz : Int} (hx : Bit x) (hs : -100 ≤ sz ∧ sz ≤ 100) (w : World) : Calls Try.prog 19 #[.int .i64 x, .int .i64 sz] w fun e w' => e = .returned (.int .i64 (sz * (2 * x - 1))) ∧ w' = w := by
  obtain ⟨b1, b2, b3⟩ := sof_bounds hx hs
  have hx0 : 0 ≤ x ∧ x ≤ 1 := by omega
  clear hx
  obtain ⟨z, hz⟩ : ∃ z, z = sz * (2 * x - 1) := ⟨_, rfl⟩
  rw [← hz] at b1 b2 b3
  rw [← hz]
  clear hz
  go_enter Try.func19, Try.ntmps19
  go_wp2
  go_ret
  exact ⟨rfl, rfl⟩

set_option maxHeartbeats 4000000 in
theorem sSof_good {w : World} {v : Value} {n : Nat} {xs : Nat → Int} (hv : Il w v n xs) (h : Bts n xs) {sz : Int} (hsz : 0 ≤ sz ∧ sz ≤ 100) :
    Calls Try.prog 11 #[v, .int .i64 sz] w fun e w' => Pst w w' e n (sof sz xs) true := by
  obtain ⟨i0, hi, hz0, hz1, hz2⟩ := info_parts Try.info3
  have h5 := h.1
  obtain ⟨hs0, hs1⟩ := hsz
  have HBT : Hid (∀ k, k < n → Bit (xs k)) := h.2
  have i1 := sBits_any (hv.below (below_one w (.cells #[] 3))) (by omega)
  rw [decide_eq_true h] at i1
  have i2 := in_any sz 0 100
  rw [decide_eq_true (by omega)] at i2
  have OW : Hid ((w.alloc (.cells #[] 3)).ownsRow w.heap.size 3 1 (.slice (some ⟨w.heap.size, 0, none⟩) 0 0) 0 (ils (sof sz xs) 0)) := own_empty w 3 1
  have BL : Hid (Below w.heap.size w (w.alloc (.cells #[] 3))) := below_one _ _
  obtain ⟨ao, cap, rfl, hcap, hc⟩ := hv
  have HC : Hid (0 < n → ∃ b off, ao = some ⟨b, off, none⟩ ∧ b < w.heap.size ∧ ∀ k, k < n → w.cell? ⟨b, off + k, none⟩ = some (.int .i64 (xs k))) := hc
  clear hc h
  go_enter Try.func11, Try.ntmps11
  go_wp2_with (first | (go_at_call 17; (with_reducible refine (i1).mono ?_); rintro e w' ⟨rfl, hw⟩; obtain rfl := hw.symm) | (go_at_call 14; (with_reducible refine (i2 _).mono ?_); rintro e w' ⟨rfl, hw⟩; obtain rfl := hw.symm))
  clear i1
  generalize w.alloc (.cells #[] 3) = W at *
  go_loopw [6, 7] (fun o i wr => ∃ (k : Nat), i = .int .i64 k ∧ k ≤ n ∧ Hid (wr.ownsRow w.heap.size 3 1 o k (ils (sof sz xs) k) ∧ Below w.heap.size w wr)) (fun _ i _ => n - (intOf i).toNat)
  case atStart => exact ⟨0, rfl, by omega, OW.out, BL.out⟩
  case round =>
    obtain ⟨k, rfl, hk, hrel⟩ := hrel
    by_cases h1 : k < n
    · obtain ⟨b, off, rfl, hlt, hcell⟩ := HC.out (by omega)
      have c := (hrel.out.2.cell (p := ⟨b, off + k, none⟩) hlt).trans (hcell k h1)
      have HO := hrel.out.1
      have HB := hrel.out.2
      have hb1 : Bit (xs k) := HBT.out k h1
      obtain ⟨x, hx⟩ : ∃ x, x = xs k := ⟨_, rfl⟩
      rw [← hx] at c hb1
      obtain ⟨b1, b2, b3⟩ := sof_bounds hb1 ⟨by omega, hs1⟩
      have tw := tow_any hb1 ⟨by omega, hs1⟩
      have hx0 : 0 ≤ x ∧ x ≤ 1 := by omega
      obtain ⟨z, hz⟩ : ∃ z, z = sz * (2 * x - 1) := ⟨_, rfl⟩
      have hz4 : sz * (2 * x - 1) = z := hz.symm
      rw [← hz] at b1 b2 b3 tw
      have HZ : Hid (z = sof sz xs k) := by rw [hz, hx]; rfl
      clear hx hz hcell hrel hb1
      have hb3 := below_one wr (.cells #[.int .i64 z] 3)
      have HO3 := own_below HO hb3
      have HB3 := bstep HB hb3
      clear hb3
      go_wp2_with (first | (at_builtin; refine wpList_append_own _ rfl _ _ 22 rfl w.heap.size 3 i0 (.int .i64 0) 1 8 Try.underlying22 hi hz0 hz1 hz2 rfl (by decide) _ _ _ rfl HO3 ⟨wr.heap.size, 0, none⟩ 1 1 [.int .i64 z] rfl rfl (one_new _ _ _) (by simp [Value.oneCell']) (by unfold maxLen; omega) (by omega) HB3.size ?_))
      intro v' w4 hown' hgrow _
      have HB4 : Hid (Below w.heap.size w w4) := grown_below HB3 (Nat.le_refl _) HO3 hgrow
      rw [show Value.int .i64 z = .int .i64 (sof sz xs k) from congrArg _ HZ.out, ← ils_snoc (sof sz xs) k] at hown'
      have HO4 : Hid (w4.ownsRow w.heap.size 3 1 v' (k + 1) (ils (sof sz xs) (k + 1))) := hown'
      clear hown' hgrow HB3 HO3
      go_wp2
      go_roundw
      case rel => exact ⟨k + 1, by go_num, by omega, HO4.out, HB4.out⟩
      case measure => simp [intOf]; omega
    · obtain rfl : n = k := by omega
      go_wp2
      go_ret2
      exact ⟨_, rfl, hrel.out.1, hrel.out.2⟩

set_option maxHeartbeats 2000000 in
theorem sSof_bad {w : World} {v : Value} {n : Nat} {xs : Nat → Int} (hv : Il w v n xs) (hn : n ≤ 1048576) {sz : Int} (h : ¬ (Bts n xs ∧ 0 ≤ sz ∧ sz ≤ 100)) (ys : Nat → Int) :
    Calls Try.prog 11 #[v, .int .i64 sz] w fun e w' => Pst w w' e 0 ys false := by
  have i1 := sBits_any (hv.below (below_one w (.cells #[] 3))) hn
  have i2 := in_any sz 0 100
  obtain ⟨ao, cap, rfl, hcap, hc⟩ := hv
  clear hc
  by_cases c1 : Bts n xs
  · rw [decide_eq_true c1] at i1
    rw [decide_eq_false (fun c2 => h ⟨c1, c2⟩)] at i2
    clear h c1
    go_enter Try.func11, Try.ntmps11
    go_wp2_with (first | (go_at_call 17; (with_reducible refine (i1).mono ?_); rintro e w' ⟨rfl, hw⟩; obtain rfl := hw.symm) | (go_at_call 14; (with_reducible refine (i2 _).mono ?_); rintro e w' ⟨rfl, hw⟩; obtain rfl := hw.symm))
    go_ret2
    exact ⟨_, rfl, own_empty w 3 1, below_one _ _⟩
  · rw [decide_eq_false c1] at i1
    clear h c1
    clear i2
    go_enter Try.func11, Try.ntmps11
    go_wp2_with (first | (go_at_call 17; (with_reducible refine (i1).mono ?_); rintro e w' ⟨rfl, hw⟩; obtain rfl := hw.symm))
    go_ret2
    exact ⟨_, rfl, own_empty w 3 1, below_one _ _⟩
set_option maxHeartbeats 4000000 in
theorem iSof_good {w : World} {v : Value} {n : Nat} {xs : Nat → Int} (hv : Il w v n xs) (h : Bts n xs) {sz : Int} (hsz : 0 ≤ sz ∧ sz ≤ 100) :
    Calls Try.prog 12 #[v, .int .i64 sz] w fun e w' => Pst w w' e n (sof sz xs) true := by
  obtain ⟨i0, hi, hz0, hz1, hz2⟩ := info_parts Try.info3
  have h5 := h.1
  obtain ⟨hs0, hs1⟩ := hsz
  have HBT : Hid (∀ k, k < n → Bit (xs k)) := h.2
  have i1 := iBits_any (hv.below (below_one w (.cells #[] 3))) (by omega)
  rw [decide_eq_true h] at i1
  have OW : Hid ((w.alloc (.cells #[] 3)).ownsRow w.heap.size 3 1 (.slice (some ⟨w.heap.size, 0, none⟩) 0 0) 0 (ils (sof sz xs) 0)) := own_empty w 3 1
  have BL : Hid (Below w.heap.size w (w.alloc (.cells #[] 3))) := below_one _ _
  obtain ⟨ao, cap, rfl, hcap, hc⟩ := hv
  have HC : Hid (0 < n → ∃ b off, ao = some ⟨b, off, none⟩ ∧ b < w.heap.size ∧ ∀ k, k < n → w.cell? ⟨b, off + k, none⟩ = some (.int .i64 (xs k))) := hc
  clear hc h
  go_enter Try.func12, Try.ntmps12
  go_wp2_with (first | (go_at_call 18; (with_reducible refine (i1).mono ?_); rintro e w' ⟨rfl, hw⟩; obtain rfl := hw.symm))
  clear i1
  generalize w.alloc (.cells #[] 3) = W at *
  go_loopw [6, 8, 24] (fun o _ i wr => ∃ (k : Nat), i = .int .i64 k ∧ k ≤ n ∧ Hid (wr.ownsRow w.heap.size 3 1 o k (ils (sof sz xs) k) ∧ Below w.heap.size w wr)) (fun _ _ i _ => n - (intOf i).toNat)
  case atStart => exact ⟨0, rfl, by omega, OW.out, BL.out⟩
  case round =>
    obtain ⟨k, rfl, hk, hrel⟩ := hrel
    by_cases h1 : k < n
    · obtain ⟨b, off, rfl, hlt, hcell⟩ := HC.out (by omega)
      have c := (hrel.out.2.cell (p := ⟨b, off + k, none⟩) hlt).trans (hcell k h1)
      have HO := hrel.out.1
      have HB := hrel.out.2
      have hb1 : Bit (xs k) := HBT.out k h1
      obtain ⟨x, hx⟩ : ∃ x, x = xs k := ⟨_, rfl⟩
      rw [← hx] at c hb1
      obtain ⟨b1, b2, b3⟩ := sof_bounds hb1 ⟨by omega, hs1⟩
      have tw := tow_any hb1 ⟨by omega, hs1⟩
      have hx0 : 0 ≤ x ∧ x ≤ 1 := by omega
      obtain ⟨z, hz⟩ : ∃ z, z = sz * (2 * x - 1) := ⟨_, rfl⟩
      have hz4 : sz * (2 * x - 1) = z := hz.symm
      rw [← hz] at b1 b2 b3 tw
      have HZ : Hid (z = sof sz xs k) := by rw [hz, hx]; rfl
      clear hx hz hcell hrel hb1
      have hb3 := below_one wr (.cells #[.int .i64 z] 3)
      have HO3 := own_below HO hb3
      have HB3 := bstep HB hb3
      clear hb3
      go_wp2_with (first | (go_at_call 19; (with_reducible refine (tw _).mono ?_); rintro e w' ⟨rfl, hw⟩; obtain rfl := hw.symm)| (at_builtin; refine wpList_append_own _ rfl _ _ 22 rfl w.heap.size 3 i0 (.int .i64 0) 1 8 Try.underlying22 hi hz0 hz1 hz2 rfl (by decide) _ _ _ rfl HO3 ⟨wr.heap.size, 0, none⟩ 1 1 [.int .i64 z] rfl rfl (one_new _ _ _) (by simp [Value.oneCell']) (by unfold maxLen; omega) (by omega) HB3.size ?_))
      intro v' w4 hown' hgrow _
      have HB4 : Hid (Below w.heap.size w w4) := grown_below HB3 (Nat.le_refl _) HO3 hgrow
      rw [show Value.int .i64 z = .int .i64 (sof sz xs k) from congrArg _ HZ.out, ← ils_snoc (sof sz xs) k] at hown'
      have HO4 : Hid (w4.ownsRow w.heap.size 3 1 v' (k + 1) (ils (sof sz xs) (k + 1))) := hown'
      clear hown' hgrow HB3 HO3
      go_wp2
      go_roundw
      case rel => exact ⟨k + 1, by go_num, by omega, HO4.out, HB4.out⟩
      case measure => simp [intOf]; omega
    · obtain rfl : n = k := by omega
      go_wp2
      go_ret2
      exact ⟨_, rfl, hrel.out.1, hrel.out.2⟩

set_option maxHeartbeats 2000000 in
theorem iSof_bad {w : World} {v : Value} {n : Nat} {xs : Nat → Int} (hv : Il w v n xs) (hn : n ≤ 1048576) {sz : Int} (h : ¬ (Bts n xs ∧ 0 ≤ sz ∧ sz ≤ 100)) (ys : Nat → Int) :
    Calls Try.prog 12 #[v, .int .i64 sz] w fun e w' => Pst w w' e 0 ys false := by
  have i1 := iBits_any (hv.below (below_one w (.cells #[] 3))) hn
  obtain ⟨ao, cap, rfl, hcap, hc⟩ := hv
  clear hc
  by_cases c1 : Bts n xs
  · rw [decide_eq_true c1] at i1
    by_cases c2 : 0 ≤ sz
    · skip
      have c3 : ¬ (sz ≤ 100) := fun c3 => h ⟨c1, c2, c3⟩
      clear h c1
      go_enter Try.func12, Try.ntmps12
      go_wp2_with (first | (go_at_call 18; (with_reducible refine (i1).mono ?_); rintro e w' ⟨rfl, hw⟩; obtain rfl := hw.symm))
      go_ret2
      exact ⟨_, rfl, own_empty w 3 1, below_one _ _⟩
    · skip
      clear h c1
      go_enter Try.func12, Try.ntmps12
      go_wp2_with (first | (go_at_call 18; (with_reducible refine (i1).mono ?_); rintro e w' ⟨rfl, hw⟩; obtain rfl := hw.symm))
      go_ret2
      exact ⟨_, rfl, own_empty w 3 1, below_one _ _⟩
  · rw [decide_eq_false c1] at i1
    clear h c1
    go_enter Try.func12, Try.ntmps12
    go_wp2_with (first | (go_at_call 18; (with_reducible refine (i1).mono ?_); rintro e w' ⟨rfl, hw⟩; obtain rfl := hw.symm))
    go_ret2
    exact ⟨_, rfl, own_empty w 3 1, below_one _ _⟩
end Go.Proofs.Ytgkcofjhajjjgab
