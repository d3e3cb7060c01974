/- ShapeNoise. -/
import Derived.Test.YtgpoajcpngndhabC2
import Derived.Test.YtgpoajcpngndhabA4
namespace Go.Proofs.Ytgpoajcpngndhab
open Go.RowKit

/-- What is left behind the first k. -/
def lft (xs : Nat → Int) (b : Int) : Nat → Int
  | 0 => 0
  | k + 1 => xs k + lft xs b k - shV (xs k + lft xs b k) b 3 * (2 : Int) ^ b.toNat

/-- What is told of sample k. -/
def tld (xs : Nat → Int) (b : Int) (k : Nat) : Int := shV (xs k + lft xs b k) b 3

theorem two20 {b : Int} (hb : 1 ≤ b ∧ b ≤ 20) : 2 ≤ (2 : Int) ^ b.toNat ∧ (2 : Int) ^ b.toNat ≤ 1048576 := by
  have : ∀ k : Fin 21, 1 ≤ k.val → 2 ≤ (2 : Int) ^ k.val ∧ (2 : Int) ^ k.val ≤ 1048576 := by decide +kernel
  exact this ⟨b.toNat, by omega⟩ (by show 1 ≤ b.toNat; omega)

/-- What a shift leaves over. -/
theorem shift_left {x b : Int} (hx : -4000000000000000000 ≤ x ∧ x ≤ 4000000000000000000) (hb : 1 ≤ b ∧ b ≤ 20) : -((2 : Int) ^ b.toNat) ≤ 2 * (x - shV x b 3 * (2 : Int) ^ b.toNat) ∧ 2 * (x - shV x b 3 * (2 : Int) ^ b.toNat) < (2 : Int) ^ b.toNat := by
  rw [← shV_yes hx (by omega) (by omega)]
  have D := two20 hb
  generalize (2 : Int) ^ b.toNat = M at D
  have e := sub_emod x M
  have r0 := Int.emod_nonneg x (show M ≠ 0 by omega)
  have r1 := Int.emod_lt_of_pos x (show 0 < M by omega)
  have e2 : (x / M + 1) * M = x / M * M + M := by grind
  unfold shv upB
  simp only [show ¬ ((3 : Int) = 2) by decide, if_false, if_true]
  by_cases h : M - x % M ≤ x % M
  · rw [if_pos (by simp [h])]
    omega
  · rw [if_neg (by simpa using h)]
    omega

theorem lft_bounds {xs : Nat → Int} {n : Nat} {b : Int} (h : ∀ k, k < n → Smp (xs k)) (hb : 1 ≤ b ∧ b ≤ 20) : ∀ k, k ≤ n → -((2 : Int) ^ b.toNat) ≤ 2 * lft xs b k ∧ 2 * lft xs b k ≤ (2 : Int) ^ b.toNat
  | 0, _ => by have := two20 hb; simp only [lft]; omega
  | k + 1, hk => by
    have h1 := lft_bounds h hb k (by omega)
    have h2 := h k (by omega)
    have h3 := two20 hb
    have := shift_left (x := xs k + lft xs b k) (b := b) (by omega) hb
    simp only [lft]
    omega

/-- Good for ShapeNoise. -/
abbrev GN (n : Nat) (xs : Nat → Int) (b : Int) : Prop := Sig n xs ∧ (1 ≤ b ∧ b ≤ 20)

set_option maxHeartbeats 2000000 in
theorem sNoise_any {w : World} {v : Value} {n : Nat} {xs : Nat → Int} {b : Int} (hv : Il w v n xs) (hn : n ≤ 1048576) (N : Nat) (ys : Nat → Int) (ok : Bool)
    (hg : GN n xs b → N = n ∧ ys = tld xs b ∧ ok = true) (hb : ¬ GN n xs b → N = 0 ∧ ok = false) :
    Calls Try.prog 6 #[v, .int .i64 b] w fun e w' => Pst w w' e N ys ok := by
  obtain ⟨i0, hi, hz0, hz1, hz2⟩ := info_parts Try.info3
  have HG : Hid (GN n xs b → N = n ∧ ys = tld xs b ∧ ok = true) := hg
  have HB : Hid (¬ GN n xs b → N = 0 ∧ ok = false) := hb
  clear hg hb
  have hv1 := hv.below (below_one w (.cells #[] 3))
  have i1 := sSig_any hv1 hn
  have i2 := in_any b 1 20
  clear hv1
  obtain ⟨ao, cap, rfl, hcap, hc⟩ := hv
  have HC : Hid (0 < n → ∃ b off, ao = some ⟨b, off, none⟩ ∧ b < w.heap.size ∧ ∀ k, k < n → w.cell? ⟨b, off + k, none⟩ = some (.int .i64 (xs k))) := hc
  clear hc
  by_cases hs : Sig n xs
  · rw [decide_eq_true hs] at i1
    by_cases hb : 1 ≤ b ∧ b ≤ 20
    · rw [decide_eq_true hb] at i2
      have HL : Hid (∀ k, k ≤ n → -((2 : Int) ^ b.toNat) ≤ 2 * lft xs b k ∧ 2 * lft xs b k ≤ (2 : Int) ^ b.toNat) := lft_bounds hs.2 hb
      have h512 := hs.1
      have hD := two20 hb
      have HSg : Hid (Sig n xs) := hs
      clear hs
      go_enter Try.func6, Try.ntmps6
      go_wp2_with (first | (go_at_call 16; (with_reducible refine (i1).mono ?_); rintro e w' ⟨rfl, hw⟩; obtain rfl := hw.symm) | (go_at_call 17; (with_reducible refine (i2 _).mono ?_); rintro e w' ⟨rfl, hw⟩; obtain rfl := hw.symm))
      go_loopw [6, 7, 8, 9] (fun o s i _ wr => ∃ k : Nat, i = .int .i64 k ∧ s = .int .i64 (lft xs b k) ∧ k ≤ n ∧ Hid (wr.ownsRow w.heap.size 3 1 o k (ils (tld xs b) k) ∧ Below w.heap.size w wr)) (fun _ _ i _ _ => n - (intOf i).toNat)
      case atStart => exact ⟨0, rfl, rfl, by omega, own_empty w 3 1, below_one _ _⟩
      case round =>
        obtain ⟨k, rfl, rfl, hk, hrel⟩ := hrel
        by_cases h1 : k < n
        · obtain ⟨bb, off, rfl, hlt, hcell⟩ := HC.out (by omega)
          have c : wr.cell? ⟨bb, off + k, none⟩ = some (.int .i64 (xs k)) := (hrel.out.2.cell (p := ⟨bb, off + k, none⟩) hlt).trans (hcell k h1)
          clear hcell
          have r1 := HL.out k hk
          have r2 := HSg.out.2 k h1
          have r3 := HL.out (k + 1) (by omega)
          have e1 : xs k + lft xs b k - tld xs b k * (2 : Int) ^ b.toNat = lft xs b (k + 1) := rfl
          have i3 : ∀ W, Calls Try.prog 18 #[.int .i64 (xs k + lft xs b k), .int .i64 b, .int .i64 3] W fun e w' => e = .returned (.int .i64 (tld xs b k)) ∧ w' = W := sShift_any (xs k + lft xs b k) b 3
          have hb3 := below_one wr (.cells #[.int .i64 (tld xs b k)] 3)
          have HO3 := own_below hrel.out.1 hb3
          have HB3 := bstep hrel.out.2 hb3
          clear hb3
          go_wp2_with (first | (go_at_call 18; (with_reducible refine (i3 _).mono ?_); rintro e w' ⟨rfl, hw⟩; obtain rfl := hw.symm) | (at_builtin; refine wpList_append_own _ rfl _ _ 22 rfl w.heap.size 3 i0 (.int .i64 0) 1 8 Try.underlying22 hi hz0 hz1 hz2 rfl (by decide) _ _ _ rfl HO3 ⟨wr.heap.size, 0, none⟩ 1 1 [.int .i64 (tld xs b k)] rfl rfl (one_new _ _ _) (by simp [Value.oneCell']) (by unfold maxLen; omega) (by omega) HB3.size ?_))
          intro v' w4 hown' hgrow _
          have HB4 : Hid _ := grown_below HB3 (Nat.le_refl _) HO3 hgrow
          rw [← ils_snoc (tld xs b) k] at hown'
          have HO4 : Hid _ := hown'
          clear hown' hgrow HB3 HO3
          go_wp2
          go_roundw
          case rel => exact ⟨k + 1, by go_num, rfl, by omega, HO4.out, HB4.out⟩
          case measure => simp [intOf]; omega
        · obtain rfl : k = n := by omega
          obtain ⟨rfl, rfl, rfl⟩ := HG.out ⟨HSg.out, hb⟩
          go_wp2
          go_ret2
          exact ⟨_, rfl, hrel.out.1, hrel.out.2⟩
    · rw [decide_eq_false hb] at i2
      obtain ⟨rfl, rfl⟩ := HB.out (fun h => hb h.2)
      clear hs hb
      go_enter Try.func6, Try.ntmps6
      go_wp2_with (first | (go_at_call 16; (with_reducible refine (i1).mono ?_); rintro e w' ⟨rfl, hw⟩; obtain rfl := hw.symm) | (go_at_call 17; (with_reducible refine (i2 _).mono ?_); rintro e w' ⟨rfl, hw⟩; obtain rfl := hw.symm))
      go_ret2
      exact ⟨_, rfl, own_empty w 3 1, below_one _ _⟩
  · rw [decide_eq_false hs] at i1
    obtain ⟨rfl, rfl⟩ := HB.out (fun h => hs h.1)
    clear hs
    go_enter Try.func6, Try.ntmps6
    go_wp2_with (first | (go_at_call 16; (with_reducible refine (i1).mono ?_); rintro e w' ⟨rfl, hw⟩; obtain rfl := hw.symm) | (go_at_call 17; (with_reducible refine (i2 _).mono ?_); rintro e w' ⟨rfl, hw⟩; obtain rfl := hw.symm))
    go_ret2
    exact ⟨_, rfl, own_empty w 3 1, below_one _ _⟩

set_option maxHeartbeats 2000000 in
theorem iNoise_any {w : World} {v : Value} {n : Nat} {xs : Nat → Int} {b : Int} (hv : Il w v n xs) (hn : n ≤ 1048576) (N : Nat) (ys : Nat → Int) (ok : Bool)
    (hg : GN n xs b → N = n ∧ ys = tld xs b ∧ ok = true) (hb : ¬ GN n xs b → N = 0 ∧ ok = false) :
    Calls Try.prog 8 #[v, .int .i64 b] w fun e w' => Pst w w' e N ys ok := by
  obtain ⟨i0, hi, hz0, hz1, hz2⟩ := info_parts Try.info3
  have HG : Hid (GN n xs b → N = n ∧ ys = tld xs b ∧ ok = true) := hg
  have HB : Hid (¬ GN n xs b → N = 0 ∧ ok = false) := hb
  clear hg hb
  have i1 := iSig_any hv hn
  obtain ⟨ao, cap, rfl, hcap, hc⟩ := hv
  have HC : Hid (0 < n → ∃ b off, ao = some ⟨b, off, none⟩ ∧ b < w.heap.size ∧ ∀ k, k < n → w.cell? ⟨b, off + k, none⟩ = some (.int .i64 (xs k))) := hc
  clear hc
  by_cases hs : Sig n xs
  · rw [decide_eq_true hs] at i1
    by_cases hb : 1 ≤ b ∧ b ≤ 20
    · have HL : Hid (∀ k, k ≤ n → -((2 : Int) ^ b.toNat) ≤ 2 * lft xs b k ∧ 2 * lft xs b k ≤ (2 : Int) ^ b.toNat) := lft_bounds hs.2 hb
      have h512 := hs.1
      have hD := two20 hb
      have HSg : Hid (Sig n xs) := hs
      clear hs
      go_enter Try.func8, Try.ntmps8
      go_wp2_with (first | (go_at_call 19; (with_reducible refine (i1).mono ?_); rintro e w' ⟨rfl, hw⟩; obtain rfl := hw.symm))
      go_loopw [6, 7, 9, 10, 26] (fun o s _ _ i wr => ∃ k : Nat, i = .int .i64 k ∧ s = .int .i64 (lft xs b k) ∧ k ≤ n ∧ Hid (wr.ownsRow w.heap.size 3 1 o k (ils (tld xs b) k) ∧ Below w.heap.size w wr)) (fun _ _ _ _ i _ => n - (intOf i).toNat)
      case atStart => exact ⟨0, rfl, rfl, by omega, own_empty w 3 1, below_one _ _⟩
      case round =>
        obtain ⟨k, rfl, rfl, hk, hrel⟩ := hrel
        by_cases h1 : k < n
        · obtain ⟨bb, off, rfl, hlt, hcell⟩ := HC.out (by omega)
          have c : wr.cell? ⟨bb, off + k, none⟩ = some (.int .i64 (xs k)) := (hrel.out.2.cell (p := ⟨bb, off + k, none⟩) hlt).trans (hcell k h1)
          clear hcell
          have r1 := HL.out k hk
          have r2 := HSg.out.2 k h1
          have r3 := HL.out (k + 1) (by omega)
          have e0 : xs k + lft xs b k - tld xs b k * (2 : Int) ^ b.toNat = lft xs b (k + 1) := rfl
          have e1 : lft xs b k + (xs k - tld xs b k * (2 : Int) ^ b.toNat) = lft xs b (k + 1) := by omega
          have i3 : ∀ W, Calls Try.prog 20 #[.int .i64 (xs k + lft xs b k), .int .i64 b, .int .i64 3] W fun e w' => e = .returned (.int .i64 (tld xs b k)) ∧ w' = W := iShift_any (xs k + lft xs b k) b 3
          have hb3 := below_one wr (.cells #[.int .i64 (tld xs b k)] 3)
          have HO3 := own_below hrel.out.1 hb3
          have HB3 := bstep hrel.out.2 hb3
          clear hb3
          go_wp2_with (first | (go_at_call 20; (with_reducible refine (i3 _).mono ?_); rintro e w' ⟨rfl, hw⟩; obtain rfl := hw.symm) | (at_builtin; refine wpList_append_own _ rfl _ _ 22 rfl w.heap.size 3 i0 (.int .i64 0) 1 8 Try.underlying22 hi hz0 hz1 hz2 rfl (by decide) _ _ _ rfl HO3 ⟨wr.heap.size, 0, none⟩ 1 1 [.int .i64 (tld xs b k)] rfl rfl (one_new _ _ _) (by simp [Value.oneCell']) (by unfold maxLen; omega) (by omega) HB3.size ?_))
          intro v' w4 hown' hgrow _
          have HB4 : Hid _ := grown_below HB3 (Nat.le_refl _) HO3 hgrow
          rw [← ils_snoc (tld xs b) k] at hown'
          have HO4 : Hid _ := hown'
          clear hown' hgrow HB3 HO3
          go_wp2
          go_roundw
          case rel => exact ⟨k + 1, by go_num, rfl, by omega, HO4.out, HB4.out⟩
          case measure => simp [intOf]; omega
        · obtain rfl : k = n := by omega
          obtain ⟨rfl, rfl, rfl⟩ := HG.out ⟨HSg.out, hb⟩
          go_wp2
          go_ret2
          exact ⟨_, rfl, hrel.out.1, hrel.out.2⟩
    · obtain ⟨rfl, rfl⟩ := HB.out (fun h => hb h.2)
      have hb' : b < 1 ∨ 20 < b := by omega
      clear hs hb
      rcases hb' with h | h
      · go_enter Try.func8, Try.ntmps8
        go_wp2_with (first | (go_at_call 19; (with_reducible refine (i1).mono ?_); rintro e w' ⟨rfl, hw⟩; obtain rfl := hw.symm))
        go_ret2
        exact ⟨_, rfl, own_empty w 3 1, below_one _ _⟩
      · go_enter Try.func8, Try.ntmps8
        go_wp2_with (first | (go_at_call 19; (with_reducible refine (i1).mono ?_); rintro e w' ⟨rfl, hw⟩; obtain rfl := hw.symm))
        go_ret2
        exact ⟨_, rfl, own_empty w 3 1, below_one _ _⟩
  · rw [decide_eq_false hs] at i1
    obtain ⟨rfl, rfl⟩ := HB.out (fun h => hs h.1)
    clear hs
    go_enter Try.func8, Try.ntmps8
    go_wp2_with (first | (go_at_call 19; (with_reducible refine (i1).mono ?_); rintro e w' ⟨rfl, hw⟩; obtain rfl := hw.symm))
    go_ret2
    exact ⟨_, rfl, own_empty w 3 1, below_one _ _⟩

set_option maxHeartbeats 4000000 in
theorem wnoise_of {w : World} {v : Value} {n : Nat} {xs : Nat → Int} (b : Int) (hv : Il w v n xs) (hn : n ≤ 9223372036854775807) (N : Nat) (hN : N ≤ 1048576) (ys : Nat → Int) (ok : Bool)
    (hs : n ≤ 1048576 → ∀ W u, Il W u n xs → Calls Try.prog 6 #[u, .int .i64 b] W fun e w' => Pst W w' e N ys ok)
    (hi : n ≤ 1048576 → ∀ W u, Il W u n xs → Calls Try.prog 8 #[u, .int .i64 b] W fun e w' => Pst W w' e N ys ok) :
    Calls Try.prog 3 #[v, .int .i64 b] w fun e w' => e = .returned (.bool true) ∧ Below w.heap.size w w' := by
  by_cases h : n ≤ 1048576
  · have FV : Hid (Il w v n xs) := hv
    have HS : Hid (∀ W u, Il W u n xs → Calls Try.prog 6 #[u, .int .i64 b] W fun e w' => Pst W w' e N ys ok) := hs h
    have HI : Hid (∀ W u, Il W u n xs → Calls Try.prog 8 #[u, .int .i64 b] W fun e w' => Pst W w' e N ys ok) := hi h
    obtain ⟨ao, cap, rfl, hcap, hc⟩ := hv
    clear hc hs hi
    go_enter Try.func3, Try.ntmps3
    go_wp2_with (first
      | (go_at_call 7; (fail_if_success have := M1); refine (copy_own FV.out h).mono ?_; rintro e w1 ⟨hb1, v1, rfl, hf1, _⟩; have M1 : Hid True := trivial; have F1 : Hid (Il w1 v1 n xs) := hf1; have B1 : Hid (Below w.heap.size w w1) := hb1; clear hf1 hb1)
      | (go_at_call 6; (fail_if_success have := M2); refine (HS.out _ _ F1.out).mono ?_; rintro e w2 ⟨u0, rfl, ho2, hb2⟩; have M2 : Hid True := trivial; have FW : Hid (Il w2 u0 N ys) := il_of_own ho2; have B2 : Hid (Below w.heap.size w w2) := bstep B1.out hb2; clear ho2 hb2)
      | (go_at_call 7; have Z := M2; (fail_if_success have := M3); refine (copy_own (Il.below FV.out B2.out) h).mono ?_; rintro e w3 ⟨hb3, x0, rfl, hf3, ho3⟩; have M3 : Hid True := trivial; have FX : Hid (Il w3 x0 n xs) := hf3; have OX : Hid (w3.ownsRow w2.heap.size 3 1 x0 n (ils xs n)) := ho3; have B3 : Hid (Below w.heap.size w w3) := bstep B2.out hb3; have D3 : Hid (Below w2.heap.size w2 w3) := hb3; clear hf3 ho3 hb3)
      | (go_at_call 8; have Z := M3; (fail_if_success have := M4); refine (HI.out _ _ FX.out).mono ?_; rintro e w4 ⟨g0, rfl, ho4, hb4⟩; have M4 : Hid True := trivial; have OG : Hid (w4.ownsRow w3.heap.size 3 1 g0 N (ils ys N)) := ho4; have FX4 : Hid (Il w4 x0 n xs) := Il.below FX.out hb4; have OX4 : Hid (w4.ownsRow w2.heap.size 3 1 x0 n (ils xs n)) := own_below OX.out hb4; have B4 : Hid (Below w.heap.size w w4) := bstep B3.out hb4; have D4 : Hid (Below w2.heap.size w2 w4) := bstep D3.out hb4; have S4 : Hid (w3.heap.size ≤ w4.heap.size) := hb4.size; clear ho4 hb4)
      | (go_at_call 9; have Z := M4; (fail_if_success have := M5); refine (eq_yes (il_of_own OG.out) (Il.below FW.out D4.out) hN).mono ?_; rintro e w5 ⟨rfl, hb5⟩; have M5 : Hid True := trivial; have OG5 : Hid (w5.ownsRow w3.heap.size 3 1 g0 N (ils ys N)) := own_below OG.out hb5; have FX5 : Hid (Il w5 x0 n xs) := Il.below FX4.out hb5; have OX5 : Hid (w5.ownsRow w2.heap.size 3 1 x0 n (ils xs n)) := own_below OX4.out hb5; have B5 : Hid (Below w.heap.size w w5) := bstep B4.out hb5; have D5 : Hid (Below w2.heap.size w2 w5) := bstep D4.out hb5; have S5 : Hid (w3.heap.size ≤ w5.heap.size) := Nat.le_trans S4.out hb5.size; clear hb5)
      | (go_at_call 7; have Z := M5; (fail_if_success have := M6); refine (copy_own (Il.below FV.out B5.out) h).mono ?_; rintro e w6 ⟨hb6, y0, rfl, hf6, _⟩; have M6 : Hid True := trivial; have FY : Hid (Il w6 y0 n xs) := hf6; have OG6 : Hid (w6.ownsRow w3.heap.size 3 1 g0 N (ils ys N)) := own_below OG5.out hb6; have FX6 : Hid (Il w6 x0 n xs) := Il.below FX5.out hb6; have OX6 : Hid (w6.ownsRow w2.heap.size 3 1 x0 n (ils xs n)) := own_below OX5.out hb6; have B6 : Hid (Below w.heap.size w w6) := bstep B5.out hb6; have D6 : Hid (Below w2.heap.size w2 w6) := bstep D5.out hb6; have S6 : Hid (w3.heap.size ≤ w6.heap.size) := Nat.le_trans S5.out hb6.size; clear hf6 hb6)
      | (go_at_call 9; have Z := M6; (fail_if_success have := M7); refine (eq_yes FX6.out FY.out h).mono ?_; rintro e w7 ⟨rfl, hb7⟩; have M7 : Hid True := trivial; have OG7 : Hid (w7.ownsRow w3.heap.size 3 1 g0 N (ils ys N)) := own_below OG6.out hb7; have OX7 : Hid (w7.ownsRow w2.heap.size 3 1 x0 n (ils xs n)) := own_below OX6.out hb7; have B7 : Hid (Below w.heap.size w w7) := bstep B6.out hb7; have D7 : Hid (Below w2.heap.size w2 w7) := bstep D6.out hb7; have S7 : Hid (w3.heap.size ≤ w7.heap.size) := Nat.le_trans S6.out hb7.size; clear hb7)
      | (go_at_call 10; have Z := M7; (fail_if_success have := M8); refine (marked (B := w2.heap.size) (n := n) (v := x0) (f := xs) OX7.out D7.out.size h).mono ?_; rintro e w8 ⟨rfl, _, gx, hgx, hor, hon⟩; have M8 : Hid True := trivial; have OG8 : Hid (w8.ownsRow w3.heap.size 3 1 g0 N (ils ys N)) := own_only' (w3 := w3) (e := 3) (s := 1) (v := g0) (n := N) (xs := ils ys N) (x := x0) (m := n) (L := ils xs n) (B3 := w2.heap.size) OG7.out hon hor OX.out; have B8 : Hid (Below w.heap.size w w8) := Below.only B7.out hon (Nat.le_trans B2.out.size hgx); have D8 : Hid (Below w2.heap.size w2 w8) := Below.only D7.out hon hgx; have S8 : Hid (w3.heap.size ≤ w8.heap.size) := Nat.le_trans S7.out hon.size; clear hon hor hgx)
      | (go_at_call 9; have Z := M8; (fail_if_success have := M9); refine (eq_yes (il_of_own OG8.out) (Il.below FW.out D8.out) hN).mono ?_; rintro e w9 ⟨rfl, hb9⟩; have M9 : Hid True := trivial; have OG9 : Hid (w9.ownsRow w3.heap.size 3 1 g0 N (ils ys N)) := own_below OG8.out hb9; have B9 : Hid (Below w.heap.size w w9) := bstep B8.out hb9; have D9 : Hid (Below w2.heap.size w2 w9) := bstep D8.out hb9; have S9 : Hid (w3.heap.size ≤ w9.heap.size) := Nat.le_trans S8.out hb9.size; clear hb9)
      | (go_at_call 10; have Z := M9; (fail_if_success have := MA); refine (marked (B := w3.heap.size) (n := N) (v := g0) (f := ys) OG9.out S9.out hN).mono ?_; rintro e wA ⟨rfl, hmA, gg, hgg, _, hon⟩; have MA : Hid True := trivial; have MG : Hid (wA.ownsRow w3.heap.size 3 1 g0 N (ils mks N)) := hmA; have BA : Hid (Below w.heap.size w wA) := Below.only B9.out hon (Nat.le_trans B3.out.size hgg); have DA : Hid (Below w2.heap.size w2 wA) := Below.only D9.out hon (Nat.le_trans D3.out.size hgg); clear hon hgg hmA)
      | (go_at_call 11; have Z := MA; (fail_if_success have := MB); refine (held MG.out hN).mono ?_; rintro e w' ⟨rfl, hw⟩; obtain rfl := hw.symm; have MB : Hid True := trivial)
      | (go_at_call 7; have Z := MB; (fail_if_success have := MC); refine (copy_own (Il.below FV.out BA.out) h).mono ?_; rintro e wC ⟨hbC, vC, rfl, hfC, _⟩; have MC : Hid True := trivial; have FC : Hid (Il wC vC n xs) := hfC; have MGC : Hid (wC.ownsRow w3.heap.size 3 1 g0 N (ils mks N)) := own_below MG.out hbC; have BC : Hid (Below w.heap.size w wC) := bstep BA.out hbC; have DC : Hid (Below w2.heap.size w2 wC) := bstep DA.out hbC; clear hfC hbC)
      | (go_at_call 8; have Z := MC; (fail_if_success have := MD); refine (HI.out _ _ FC.out).mono ?_; rintro e wD ⟨h0, rfl, hoD, hbD⟩; have MD : Hid True := trivial; have OH : Hid (wD.ownsRow wC.heap.size 3 1 h0 N (ils ys N)) := hoD; have MGD : Hid (wD.ownsRow w3.heap.size 3 1 g0 N (ils mks N)) := own_below MGC.out hbD; have BD : Hid (Below w.heap.size w wD) := bstep BC.out hbD; have DD : Hid (Below w2.heap.size w2 wD) := bstep DC.out hbD; clear hoD hbD)
      | (go_at_call 9; have Z := MD; (fail_if_success have := ME); refine (eq_yes (il_of_own OH.out) (Il.below FW.out DD.out) hN).mono ?_; rintro e wE ⟨rfl, hbE⟩; have ME : Hid True := trivial; have MGE : Hid (wE.ownsRow w3.heap.size 3 1 g0 N (ils mks N)) := own_below MGD.out hbE; have BE : Hid (Below w.heap.size w wE) := bstep BD.out hbE; clear hbE)
      | (go_at_call 11; have Z := ME; (fail_if_success have := MF); refine (held MGE.out hN).mono ?_; rintro e w' ⟨rfl, hw⟩; obtain rfl := hw.symm; have MF : Hid True := trivial))
    go_ret
    exact ⟨rfl, BE.out⟩
  · obtain ⟨ao, cap, rfl, hcap, hc⟩ := hv
    clear hc hs hi
    go_enter Try.func3, Try.ntmps3
    go_wp2
    go_ret
    exact ⟨rfl, Below.refl _ _⟩

theorem walk_noise {w : World} {v : Value} {n : Nat} {xs : Nat → Int} (hv : Il w v n xs) (hn : n ≤ 9223372036854775807) (b : Int) : Calls Try.prog 3 #[v, .int .i64 b] w fun e w' => e = .returned (.bool true) ∧ Below w.heap.size w w' := by
  by_cases hg : GN n xs b
  · have h1 := hg.1.1
    exact wnoise_of b hv hn n (by omega) _ true (fun h W u hu => sNoise_any hu h n _ true (fun _ => ⟨rfl, rfl, rfl⟩) (fun h => absurd hg h)) (fun h W u hu => iNoise_any hu h n _ true (fun _ => ⟨rfl, rfl, rfl⟩) (fun h => absurd hg h))
  · exact wnoise_of b hv hn 0 (by omega) (fun _ => 0) false (fun h W u hu => sNoise_any hu h 0 _ false (fun h => absurd h hg) (fun _ => ⟨rfl, rfl⟩)) (fun h W u hu => iNoise_any hu h 0 _ false (fun h => absurd h hg) (fun _ => ⟨rfl, rfl⟩))
end Go.Proofs.Ytgpoajcpngndhab
