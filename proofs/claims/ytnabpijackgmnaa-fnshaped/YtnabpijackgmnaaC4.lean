/- ShapeNoise. -/
import Derived.Test.YtnabpijackgmnaaC2
import Derived.Test.YtnabpijackgmnaaA4
namespace Go.Proofs.Ytnabpijackgmnaa
open Go.RowKit

/-- What is left behind the first k. -/
def lft (xs : Nat → Int) (b : Int) : Nat → Int
  | 0 => 0
  | k + 1 => xs k + lft xs b k - shV (xs k + lft xs b k) b 3 * (2 : Int) ^ b.toNat

/-- What is told of sample k. -/
def tld (xs : Nat → Int) (b : Int) (k : Nat) : Int := shV (xs k + lft xs b k) b 3

theorem two20 {b : Int} (hb : 1 ≤ b ∧ b ≤ 20) : 2 ≤ (2 : Int) ^ b.toNat ∧ (2 : Int) ^ b.toNat ≤ 1048576 := by
  have : ∀ k : Fin 21, 1 ≤ k.val → 2 ≤ (2 : Int) ^ k.val ∧ (2 : Int) ^ k.val ≤ 1048576 := by decide +kernel
  exact this ⟨b.toNat, by omega⟩ (by show 1 ≤ b.toNat; omega)

/-- What a shift leaves over. -/
theorem shift_left {x b : Int} (hx : -4000000000000000000 ≤ x ∧ x ≤ 4000000000000000000) (hb : 1 ≤ b ∧ b ≤ 20) : -((2 : Int) ^ b.toNat) ≤ 2 * (x - shV x b 3 * (2 : Int) ^ b.toNat) ∧ 2 * (x - shV x b 3 * (2 : Int) ^ b.toNat) < (2 : Int) ^ b.toNat := by
  rw [← shV_yes hx (by omega) (by omega)]
  have D := two20 hb
  generalize (2 : Int) ^ b.toNat = M at D
  have e := sub_emod x M
  have r0 := Int.emod_nonneg x (show M ≠ 0 by omega)
  have r1 := Int.emod_lt_of_pos x (show 0 < M by omega)
  have e2 : (x / M + 1) * M = x / M * M + M := by grind
  unfold shv upB
  simp only [show ¬ ((3 : Int) = 2) by decide, if_false, if_true]
  by_cases h : M - x % M ≤ x % M
  · rw [if_pos (by simp [h])]
    omega
  · rw [if_neg (by simpa using h)]
    omega

theorem lft_bounds {xs : Nat → Int} {n : Nat} {b : Int} (h : ∀ k, k < n → Smp (xs k)) (hb : 1 ≤ b ∧ b ≤ 20) : ∀ k, k ≤ n → -((2 : Int) ^ b.toNat) ≤ 2 * lft xs b k ∧ 2 * lft xs b k ≤ (2 : Int) ^ b.toNat
  | 0, _ => by have := two20 hb; simp only [lft]; omega
  | k + 1, hk => by
    have h1 := lft_bounds h hb k (by omega)
    have h2 := h k (by omega)
    have h3 := two20 hb
    have := shift_left (x := xs k + lft xs b k) (b := b) (by omega) hb
    simp only [lft]
    omega

/-- Good for ShapeNoise. -/
abbrev GN (n : Nat) (xs : Nat → Int) (b : Int) : Prop := Sig n xs ∧ (1 ≤ b ∧ b ≤ 20)

set_option maxHeartbeats 2000000 in
theorem sNoise_any {w : World} {v : Value} {n : Nat} {xs : Nat → Int} {b : Int} (hv : Il w v n xs) (hn : n ≤ 1048576) (N : Nat) (ys : Nat → Int) (ok : Bool)
    (hg : GN n xs b → N = n ∧ ys = tld xs b ∧ ok = true) (hb : ¬ GN n xs b → N = 0 ∧ ok = false) :
    Calls Try.prog 22 #[v, .int .i64 b] w fun e w' => Pst w w' e N ys ok := by
  obtain ⟨i0, hi, hz0, hz1, hz2⟩ := info_parts Try.info3
  have HG : Hid (GN n xs b → N = n ∧ ys = tld xs b ∧ ok = true) := hg
  have HB : Hid (¬ GN n xs b → N = 0 ∧ ok = false) := hb
  clear hg hb
  have hv1 := hv.below (below_one w (.cells #[] 3))
  have i1 := sSig_any hv1 hn
  have i2 := in_any b 1 20
  clear hv1
  obtain ⟨ao, cap, rfl, hcap, hc⟩ := hv
  have HC : Hid (0 < n → ∃ b off, ao = some ⟨b, off, none⟩ ∧ b < w.heap.size ∧ ∀ k, k < n → w.cell? ⟨b, off + k, none⟩ = some (.int .i64 (xs k))) := hc
  clear hc
  by_cases hs : Sig n xs
  · rw [decide_eq_true hs] at i1
    by_cases hb : 1 ≤ b ∧ b ≤ 20
    · rw [decide_eq_true hb] at i2
      have HL : Hid (∀ k, k ≤ n → -((2 : Int) ^ b.toNat) ≤ 2 * lft xs b k ∧ 2 * lft xs b k ≤ (2 : Int) ^ b.toNat) := lft_bounds hs.2 hb
      have h512 := hs.1
      have hD := two20 hb
      have HSg : Hid (Sig n xs) := hs
      clear hs
      go_enter Try.func22, Try.ntmps22
      go_wp2_with (first | (go_at_call 57; (with_reducible refine (i1).mono ?_); rintro e w' ⟨rfl, hw⟩; obtain rfl := hw.symm) | (go_at_call 34; (with_reducible refine (i2 _).mono ?_); rintro e w' ⟨rfl, hw⟩; obtain rfl := hw.symm))
      go_loopw [6, 7, 8, 9] (fun o s i _ wr => ∃ k : Nat, i = .int .i64 k ∧ s = .int .i64 (lft xs b k) ∧ k ≤ n ∧ Hid (wr.ownsRow w.heap.size 3 1 o k (ils (tld xs b) k) ∧ Below w.heap.size w wr)) (fun _ _ i _ _ => n - (intOf i).toNat)
      case atStart => exact ⟨0, rfl, rfl, by omega, own_empty w 3 1, below_one _ _⟩
      case round =>
        obtain ⟨k, rfl, rfl, hk, hrel⟩ := hrel
        by_cases h1 : k < n
        · obtain ⟨bb, off, rfl, hlt, hcell⟩ := HC.out (by omega)
          have c : wr.cell? ⟨bb, off + k, none⟩ = some (.int .i64 (xs k)) := (hrel.out.2.cell (p := ⟨bb, off + k, none⟩) hlt).trans (hcell k h1)
          clear hcell
          have r1 := HL.out k hk
          have r2 := HSg.out.2 k h1
          have r3 := HL.out (k + 1) (by omega)
          have e1 : xs k + lft xs b k - tld xs b k * (2 : Int) ^ b.toNat = lft xs b (k + 1) := rfl
          have i3 : ∀ W, Calls Try.prog 53 #[.int .i64 (xs k + lft xs b k), .int .i64 b, .int .i64 3] W fun e w' => e = .returned (.int .i64 (tld xs b k)) ∧ w' = W := sShift_any (xs k + lft xs b k) b 3
          have hb3 := below_one wr (.cells #[.int .i64 (tld xs b k)] 3)
          have HO3 := own_below hrel.out.1 hb3
          have HB3 := bstep hrel.out.2 hb3
          clear hb3
          go_wp2_with (first | (go_at_call 53; (with_reducible refine (i3 _).mono ?_); rintro e w' ⟨rfl, hw⟩; obtain rfl := hw.symm) | (at_builtin; refine wpList_append_own _ rfl _ _ 32 rfl w.heap.size 3 i0 (.int .i64 0) 1 8 Try.underlying32 hi hz0 hz1 hz2 rfl (by decide) _ _ _ rfl HO3 ⟨wr.heap.size, 0, none⟩ 1 1 [.int .i64 (tld xs b k)] rfl rfl (one_new _ _ _) (by simp [Value.oneCell']) (by unfold maxLen; omega) (by omega) HB3.size ?_))
          intro v' w4 hown' hgrow _
          have HB4 : Hid _ := grown_below HB3 (Nat.le_refl _) HO3 hgrow
          rw [← ils_snoc (tld xs b) k] at hown'
          have HO4 : Hid _ := hown'
          clear hown' hgrow HB3 HO3
          go_wp2
          go_roundw
          case rel => exact ⟨k + 1, by go_num, rfl, by omega, HO4.out, HB4.out⟩
          case measure => simp [intOf]; omega
        · obtain rfl : k = n := by omega
          obtain ⟨rfl, rfl, rfl⟩ := HG.out ⟨HSg.out, hb⟩
          go_wp2
          go_ret2
          exact ⟨_, rfl, hrel.out.1, hrel.out.2⟩
    · rw [decide_eq_false hb] at i2
      obtain ⟨rfl, rfl⟩ := HB.out (fun h => hb h.2)
      clear hs hb
      go_enter Try.func22, Try.ntmps22
      go_wp2_with (first | (go_at_call 57; (with_reducible refine (i1).mono ?_); rintro e w' ⟨rfl, hw⟩; obtain rfl := hw.symm) | (go_at_call 34; (with_reducible refine (i2 _).mono ?_); rintro e w' ⟨rfl, hw⟩; obtain rfl := hw.symm))
      go_ret2
      exact ⟨_, rfl, own_empty w 3 1, below_one _ _⟩
  · rw [decide_eq_false hs] at i1
    obtain ⟨rfl, rfl⟩ := HB.out (fun h => hs h.1)
    clear hs
    go_enter Try.func22, Try.ntmps22
    go_wp2_with (first | (go_at_call 57; (with_reducible refine (i1).mono ?_); rintro e w' ⟨rfl, hw⟩; obtain rfl := hw.symm) | (go_at_call 34; (with_reducible refine (i2 _).mono ?_); rintro e w' ⟨rfl, hw⟩; obtain rfl := hw.symm))
    go_ret2
    exact ⟨_, rfl, own_empty w 3 1, below_one _ _⟩

set_option maxHeartbeats 2000000 in
theorem iNoise_any {w : World} {v : Value} {n : Nat} {xs : Nat → Int} {b : Int} (hv : Il w v n xs) (hn : n ≤ 1048576) (N : Nat) (ys : Nat → Int) (ok : Bool)
    (hg : GN n xs b → N = n ∧ ys = tld xs b ∧ ok = true) (hb : ¬ GN n xs b → N = 0 ∧ ok = false) :
    Calls Try.prog 21 #[v, .int .i64 b] w fun e w' => Pst w w' e N ys ok := by
  obtain ⟨i0, hi, hz0, hz1, hz2⟩ := info_parts Try.info3
  have HG : Hid (GN n xs b → N = n ∧ ys = tld xs b ∧ ok = true) := hg
  have HB : Hid (¬ GN n xs b → N = 0 ∧ ok = false) := hb
  clear hg hb
  have i1 := iSig_any hv hn
  obtain ⟨ao, cap, rfl, hcap, hc⟩ := hv
  have HC : Hid (0 < n → ∃ b off, ao = some ⟨b, off, none⟩ ∧ b < w.heap.size ∧ ∀ k, k < n → w.cell? ⟨b, off + k, none⟩ = some (.int .i64 (xs k))) := hc
  clear hc
  by_cases hs : Sig n xs
  · rw [decide_eq_true hs] at i1
    by_cases hb : 1 ≤ b ∧ b ≤ 20
    · have HL : Hid (∀ k, k ≤ n → -((2 : Int) ^ b.toNat) ≤ 2 * lft xs b k ∧ 2 * lft xs b k ≤ (2 : Int) ^ b.toNat) := lft_bounds hs.2 hb
      have h512 := hs.1
      have hD := two20 hb
      have HSg : Hid (Sig n xs) := hs
      clear hs
      go_enter Try.func21, Try.ntmps21
      go_wp2_with (first | (go_at_call 56; (with_reducible refine (i1).mono ?_); rintro e w' ⟨rfl, hw⟩; obtain rfl := hw.symm))
      go_loopw [6, 7, 9, 10, 26] (fun o s _ _ i wr => ∃ k : Nat, i = .int .i64 k ∧ s = .int .i64 (lft xs b k) ∧ k ≤ n ∧ Hid (wr.ownsRow w.heap.size 3 1 o k (ils (tld xs b) k) ∧ Below w.heap.size w wr)) (fun _ _ _ _ i _ => n - (intOf i).toNat)
      case atStart => exact ⟨0, rfl, rfl, by omega, own_empty w 3 1, below_one _ _⟩
      case round =>
        obtain ⟨k, rfl, rfl, hk, hrel⟩ := hrel
        by_cases h1 : k < n
        · obtain ⟨bb, off, rfl, hlt, hcell⟩ := HC.out (by omega)
          have c : wr.cell? ⟨bb, off + k, none⟩ = some (.int .i64 (xs k)) := (hrel.out.2.cell (p := ⟨bb, off + k, none⟩) hlt).trans (hcell k h1)
          clear hcell
          have r1 := HL.out k hk
          have r2 := HSg.out.2 k h1
          have r3 := HL.out (k + 1) (by omega)
          have e0 : xs k + lft xs b k - tld xs b k * (2 : Int) ^ b.toNat = lft xs b (k + 1) := rfl
          have e1 : lft xs b k + (xs k - tld xs b k * (2 : Int) ^ b.toNat) = lft xs b (k + 1) := by omega
          have i3 : ∀ W, Calls Try.prog 13 #[.int .i64 (xs k + lft xs b k), .int .i64 b, .int .i64 3] W fun e w' => e = .returned (.int .i64 (tld xs b k)) ∧ w' = W := iShift_any (xs k + lft xs b k) b 3
          have hb3 := below_one wr (.cells #[.int .i64 (tld xs b k)] 3)
          have HO3 := own_below hrel.out.1 hb3
          have HB3 := bstep hrel.out.2 hb3
          clear hb3
          go_wp2_with (first | (go_at_call 13; (with_reducible refine (i3 _).mono ?_); rintro e w' ⟨rfl, hw⟩; obtain rfl := hw.symm) | (at_builtin; refine wpList_append_own _ rfl _ _ 32 rfl w.heap.size 3 i0 (.int .i64 0) 1 8 Try.underlying32 hi hz0 hz1 hz2 rfl (by decide) _ _ _ rfl HO3 ⟨wr.heap.size, 0, none⟩ 1 1 [.int .i64 (tld xs b k)] rfl rfl (one_new _ _ _) (by simp [Value.oneCell']) (by unfold maxLen; omega) (by omega) HB3.size ?_))
          intro v' w4 hown' hgrow _
          have HB4 : Hid _ := grown_below HB3 (Nat.le_refl _) HO3 hgrow
          rw [← ils_snoc (tld xs b) k] at hown'
          have HO4 : Hid _ := hown'
          clear hown' hgrow HB3 HO3
          go_wp2
          go_roundw
          case rel => exact ⟨k + 1, by go_num, rfl, by omega, HO4.out, HB4.out⟩
          case measure => simp [intOf]; omega
        · obtain rfl : k = n := by omega
          obtain ⟨rfl, rfl, rfl⟩ := HG.out ⟨HSg.out, hb⟩
          go_wp2
          go_ret2
          exact ⟨_, rfl, hrel.out.1, hrel.out.2⟩
    · obtain ⟨rfl, rfl⟩ := HB.out (fun h => hb h.2)
      have hb' : b < 1 ∨ 20 < b := by omega
      clear hs hb
      rcases hb' with h | h
      · go_enter Try.func21, Try.ntmps21
        go_wp2_with (first | (go_at_call 56; (with_reducible refine (i1).mono ?_); rintro e w' ⟨rfl, hw⟩; obtain rfl := hw.symm))
        go_ret2
        exact ⟨_, rfl, own_empty w 3 1, below_one _ _⟩
      · go_enter Try.func21, Try.ntmps21
        go_wp2_with (first | (go_at_call 56; (with_reducible refine (i1).mono ?_); rintro e w' ⟨rfl, hw⟩; obtain rfl := hw.symm))
        go_ret2
        exact ⟨_, rfl, own_empty w 3 1, below_one _ _⟩
  · rw [decide_eq_false hs] at i1
    obtain ⟨rfl, rfl⟩ := HB.out (fun h => hs h.1)
    clear hs
    go_enter Try.func21, Try.ntmps21
    go_wp2_with (first | (go_at_call 56; (with_reducible refine (i1).mono ?_); rintro e w' ⟨rfl, hw⟩; obtain rfl := hw.symm))
    go_ret2
    exact ⟨_, rfl, own_empty w 3 1, below_one _ _⟩

end Go.Proofs.Ytnabpijackgmnaa
