/- Differences of bits and back: both sides. -/
import Derived.Test.YtgahjkijmihmdaaBT
namespace Go.Proofs.Ytgahjkijmihmdaa
open Go.RowKit

/-- The bits told by Differ: all up to k together. -/
def dfv (xs : Nat → Int) : Nat → Int
  | 0 => 0
  | k + 1 => xb (dfv xs k) (xs k)

theorem dfv_bit {xs : Nat → Int} (k : Nat) : Bit (dfv xs k) := by
  cases k with
  | zero => exact .inl rfl
  | succ k => exact xb_bit _ _

/-- What stood ahead. -/
def prv (xs : Nat → Int) : Nat → Int
  | 0 => 0
  | k + 1 => xs k

theorem prv_bit {n : Nat} {xs : Nat → Int} (h : ∀ k, k < n → Bit (xs k)) {k : Nat} (hk : k ≤ n) : Bit (prv xs k) := by
  cases k with
  | zero => exact .inl rfl
  | succ k => exact h k (by omega)

/-- What is told. -/
def dif (xs : Nat → Int) (k : Nat) : Int := dfv xs (k + 1)
def und (xs : Nat → Int) (k : Nat) : Int := xb (prv xs k) (xs k)

set_option maxHeartbeats 4000000 in
theorem iDif_good {w : World} {v : Value} {n : Nat} {xs : Nat → Int} (hv : Il w v n xs) (h : Bts n xs) :
    Calls Try.prog 7 #[v] w fun e w' => Pst w w' e n (dif xs) true := by
  obtain ⟨i0, hi, hz0, hz1, hz2⟩ := info_parts Try.info3
  have h5 := h.1
  have HBT : Hid (∀ k, k < n → Bit (xs k)) := h.2
  have i1 := iBits_any (hv.below (below_one w (.cells #[] 3))) (by omega)
  rw [decide_eq_true h] at i1
  have OW : Hid ((w.alloc (.cells #[] 3)).ownsRow w.heap.size 3 1 (.slice (some ⟨w.heap.size, 0, none⟩) 0 0) 0 (ils (dif xs) 0)) := own_empty w 3 1
  have BL : Hid (Below w.heap.size w (w.alloc (.cells #[] 3))) := below_one _ _
  obtain ⟨ao, cap, rfl, hcap, hc⟩ := hv
  have HC : Hid (0 < n → ∃ b off, ao = some ⟨b, off, none⟩ ∧ b < w.heap.size ∧ ∀ k, k < n → w.cell? ⟨b, off + k, none⟩ = some (.int .i64 (xs k))) := hc
  clear hc h
  go_enter Try.func7, Try.ntmps7
  go_wp2_with (first | (go_at_call 23; (with_reducible refine (i1).mono ?_); rintro e w' ⟨rfl, hw⟩; obtain rfl := hw.symm))
  clear i1
  generalize w.alloc (.cells #[] 3) = W at *
  go_loopw [4, 5, 7, 15] (fun o a _ i wr => ∃ (k : Nat) (sv : Int), i = .int .i64 k ∧ a = .int .i64 sv ∧ k ≤ n ∧ Hid (sv = dfv xs k ∧ wr.ownsRow w.heap.size 3 1 o k (ils (dif xs) k) ∧ Below w.heap.size w wr)) (fun _ _ _ i _ => n - (intOf i).toNat)
  case atStart => exact ⟨0, 0, rfl, rfl, by omega, rfl, OW.out, BL.out⟩
  case round =>
    obtain ⟨k, sv, rfl, rfl, hk, hrel⟩ := hrel
    by_cases h1 : k < n
    · obtain ⟨b, off, rfl, hlt, hcell⟩ := HC.out (by omega)
      have c := (hrel.out.2.2.cell (p := ⟨b, off + k, none⟩) hlt).trans (hcell k h1)
      have HSV : Hid (sv = dfv xs k) := hrel.out.1
      have HCK : Hid (w.cell? ⟨b, off + k, none⟩ = some (.int .i64 (xs k))) := hcell k h1
      have HO := hrel.out.2.1
      have HB := hrel.out.2.2
      have hb0 : Bit sv := by rw [hrel.out.1]; exact dfv_bit k
      have hb1 : Bit (xs k) := HBT.out k h1
      obtain ⟨x, hx⟩ : ∃ x, x = xs k := ⟨_, rfl⟩
      rw [← hx] at c hb1
      have hq : bits .xor .i64 sv x = xb sv x := xor_bit hb0 hb1
      obtain ⟨z, hz⟩ : ∃ z, z = xb sv x := ⟨_, rfl⟩
      rw [← hz] at hq
      have HZ : Hid (z = dif xs k) := by rw [hz, hx, hrel.out.1]; rfl
      have HX : Hid (x = xs k) := hx
      clear hx hz hcell hrel hb0 hb1
      have hb3 := below_one wr (.cells #[.int .i64 z] 3)
      have HO3 := own_below HO hb3
      have HB3 := bstep HB hb3
      clear hb3
      go_wp2_with (first | (at_builtin; refine wpList_append_own _ rfl _ _ 24 rfl w.heap.size 3 i0 (.int .i64 0) 1 8 Try.underlying24 hi hz0 hz1 hz2 rfl (by decide) _ _ _ rfl HO3 ⟨wr.heap.size, 0, none⟩ 1 1 [.int .i64 z] rfl rfl (one_new _ _ _) (by simp [Value.oneCell']) (by unfold maxLen; omega) (by omega) HB3.size ?_))
      intro v' w4 hown' hgrow _
      have HB4 : Hid (Below w.heap.size w w4) := grown_below HB3 (Nat.le_refl _) HO3 hgrow
      rw [show Value.int .i64 z = .int .i64 (dif xs k) from congrArg _ HZ.out, ← ils_snoc (dif xs) k] at hown'
      have HO4 : Hid (w4.ownsRow w.heap.size 3 1 v' (k + 1) (ils (dif xs) (k + 1))) := hown'
      clear hown' hgrow HB3 HO3
      go_wp2
      go_roundw
      case rel => exact ⟨k + 1, _, by go_num, rfl, by omega, HZ.out, HO4.out, HB4.out⟩
      case measure => simp [intOf]; omega
    · obtain rfl : n = k := by omega
      go_wp2
      go_ret2
      exact ⟨_, rfl, hrel.out.2.1, hrel.out.2.2⟩

set_option maxHeartbeats 2000000 in
theorem iDif_bad {w : World} {v : Value} {n : Nat} {xs : Nat → Int} (hv : Il w v n xs) (hn : n ≤ 1048576) (h : ¬ Bts n xs) (ys : Nat → Int) :
    Calls Try.prog 7 #[v] w fun e w' => Pst w w' e 0 ys false := by
  have i1 := iBits_any (hv.below (below_one w (.cells #[] 3))) hn
  obtain ⟨ao, cap, rfl, hcap, hc⟩ := hv
  clear hc
  rw [decide_eq_false (fun c1 => h c1)] at i1
  clear h
  go_enter Try.func7, Try.ntmps7
  go_wp2_with (first | (go_at_call 23; (with_reducible refine (i1).mono ?_); rintro e w' ⟨rfl, hw⟩; obtain rfl := hw.symm))
  go_ret2
  exact ⟨_, rfl, own_empty w 3 1, below_one _ _⟩
set_option maxHeartbeats 4000000 in
theorem iUnd_good {w : World} {v : Value} {n : Nat} {xs : Nat → Int} (hv : Il w v n xs) (h : Bts n xs) :
    Calls Try.prog 8 #[v] w fun e w' => Pst w w' e n (und xs) true := by
  obtain ⟨i0, hi, hz0, hz1, hz2⟩ := info_parts Try.info3
  have h5 := h.1
  have HBT : Hid (∀ k, k < n → Bit (xs k)) := h.2
  have i1 := iBits_any (hv.below (below_one w (.cells #[] 3))) (by omega)
  rw [decide_eq_true h] at i1
  have OW : Hid ((w.alloc (.cells #[] 3)).ownsRow w.heap.size 3 1 (.slice (some ⟨w.heap.size, 0, none⟩) 0 0) 0 (ils (und xs) 0)) := own_empty w 3 1
  have BL : Hid (Below w.heap.size w (w.alloc (.cells #[] 3))) := below_one _ _
  obtain ⟨ao, cap, rfl, hcap, hc⟩ := hv
  have HC : Hid (0 < n → ∃ b off, ao = some ⟨b, off, none⟩ ∧ b < w.heap.size ∧ ∀ k, k < n → w.cell? ⟨b, off + k, none⟩ = some (.int .i64 (xs k))) := hc
  clear hc h
  go_enter Try.func8, Try.ntmps8
  go_wp2_with (first | (go_at_call 23; (with_reducible refine (i1).mono ?_); rintro e w' ⟨rfl, hw⟩; obtain rfl := hw.symm))
  clear i1
  generalize w.alloc (.cells #[] 3) = W at *
  go_loopw [4, 5, 7, 15] (fun o a _ i wr => ∃ (k : Nat) (sv : Int), i = .int .i64 k ∧ a = .int .i64 sv ∧ k ≤ n ∧ Hid (sv = prv xs k ∧ wr.ownsRow w.heap.size 3 1 o k (ils (und xs) k) ∧ Below w.heap.size w wr)) (fun _ _ _ i _ => n - (intOf i).toNat)
  case atStart => exact ⟨0, 0, rfl, rfl, by omega, rfl, OW.out, BL.out⟩
  case round =>
    obtain ⟨k, sv, rfl, rfl, hk, hrel⟩ := hrel
    by_cases h1 : k < n
    · obtain ⟨b, off, rfl, hlt, hcell⟩ := HC.out (by omega)
      have c := (hrel.out.2.2.cell (p := ⟨b, off + k, none⟩) hlt).trans (hcell k h1)
      have HSV : Hid (sv = prv xs k) := hrel.out.1
      have HCK : Hid (w.cell? ⟨b, off + k, none⟩ = some (.int .i64 (xs k))) := hcell k h1
      have HO := hrel.out.2.1
      have HB := hrel.out.2.2
      have hb0 : Bit sv := by rw [hrel.out.1]; exact prv_bit HBT.out hk
      have hb1 : Bit (xs k) := HBT.out k h1
      obtain ⟨x, hx⟩ : ∃ x, x = xs k := ⟨_, rfl⟩
      rw [← hx] at c hb1
      have hq : bits .xor .i64 x sv = xb sv x := (xor_bit hb1 hb0).trans (xb_comm _ _)
      obtain ⟨z, hz⟩ : ∃ z, z = xb sv x := ⟨_, rfl⟩
      rw [← hz] at hq
      have HZ : Hid (z = und xs k) := by rw [hz, hx, hrel.out.1]; rfl
      have HX : Hid (x = xs k) := hx
      clear hx hz hcell hrel hb0 hb1
      have hb3 := below_one wr (.cells #[.int .i64 z] 3)
      have HO3 := own_below HO hb3
      have HB3 := bstep HB hb3
      clear hb3
      go_wp2_with (first | (at_builtin; refine wpList_append_own _ rfl _ _ 24 rfl w.heap.size 3 i0 (.int .i64 0) 1 8 Try.underlying24 hi hz0 hz1 hz2 rfl (by decide) _ _ _ rfl HO3 ⟨wr.heap.size, 0, none⟩ 1 1 [.int .i64 z] rfl rfl (one_new _ _ _) (by simp [Value.oneCell']) (by unfold maxLen; omega) (by omega) HB3.size ?_))
      intro v' w4 hown' hgrow _
      have HB4 : Hid (Below w.heap.size w w4) := grown_below HB3 (Nat.le_refl _) HO3 hgrow
      rw [show Value.int .i64 z = .int .i64 (und xs k) from congrArg _ HZ.out, ← ils_snoc (und xs) k] at hown'
      have HO4 : Hid (w4.ownsRow w.heap.size 3 1 v' (k + 1) (ils (und xs) (k + 1))) := hown'
      clear hown' hgrow HB3 HO3
      go_wp2
      go_roundw
      case rel => exact ⟨k + 1, _, by go_num, rfl, by omega, HX.out, HO4.out, HB4.out⟩
      case measure => simp [intOf]; omega
    · obtain rfl : n = k := by omega
      go_wp2
      go_ret2
      exact ⟨_, rfl, hrel.out.2.1, hrel.out.2.2⟩

set_option maxHeartbeats 2000000 in
theorem iUnd_bad {w : World} {v : Value} {n : Nat} {xs : Nat → Int} (hv : Il w v n xs) (hn : n ≤ 1048576) (h : ¬ Bts n xs) (ys : Nat → Int) :
    Calls Try.prog 8 #[v] w fun e w' => Pst w w' e 0 ys false := by
  have i1 := iBits_any (hv.below (below_one w (.cells #[] 3))) hn
  obtain ⟨ao, cap, rfl, hcap, hc⟩ := hv
  clear hc
  rw [decide_eq_false (fun c1 => h c1)] at i1
  clear h
  go_enter Try.func8, Try.ntmps8
  go_wp2_with (first | (go_at_call 23; (with_reducible refine (i1).mono ?_); rintro e w' ⟨rfl, hw⟩; obtain rfl := hw.symm))
  go_ret2
  exact ⟨_, rfl, own_empty w 3 1, below_one _ _⟩
end Go.Proofs.Ytgahjkijmihmdaa
