/- Singles: what is written hangs on the number alone; a number that the form has, read from its word. -/
import Derived.Test.YtcmjhgijejmiaaaG5
namespace Go.Proofs.Ytcmjhgijejmiaaa

theorem e_signS : Ieee.single.signWeight = 2147483648 := by decide
theorem e_infS : Ieee.single.infRung = 2139095040 := by decide
theorem e_binS : Ieee.single.binade = 8388608 := by decide
theorem e_leastS : Ieee.single.leastPlace = -149 := by decide
theorem e_fracS : Ieee.single.fractionBits = 23 := by decide

/-- What is written hangs on the number alone. -/
theorem nearest_scaleS (s : Bool) (m j : Nat) (p : Int) : Ieee.single.nearest s (m * 2 ^ j) (p - j) = Ieee.single.nearest s m p := by
  by_cases h : m = 0
  · subst h; simp [Ieee.Format.nearest]
  · have hp : 0 < 2 ^ j := Nat.two_pow_pos j
    have hne : m * 2 ^ j ≠ 0 := Nat.mul_ne_zero h (by omega)
    unfold Ieee.Format.nearest
    rw [if_neg h, if_neg hne, log2_scale m j h]
    simp only [e_fracS, e_leastS, e_binS, e_infS, cut_even]
    have a1 : max (p - (j : Int) + ((m.log2 + j : Nat) : Int) - (23 : Nat)) (-149) = max (p + (m.log2 : Int) - (23 : Nat)) (-149) := by omega
    rw [a1]
    generalize max (p + (m.log2 : Int) - (23 : Nat)) (-149) = last
    have key : rne ((m * 2 ^ j) <<< (p - (j : Int) - last).toNat) (last - (p - (j : Int))).toNat = rne (m <<< (p - last).toNat) (last - p).toNat := by
      by_cases c : last ≤ p - j
      · have b1 : (last - (p - (j : Int))).toNat = 0 := by omega
        have b2 : (last - p).toNat = 0 := by omega
        have b3 : (p - last).toNat = j + (p - (j : Int) - last).toNat := by omega
        rw [b1, b2, b3, rne_zero, rne_zero, Nat.shiftLeft_eq, Nat.shiftLeft_eq, Nat.pow_add, Nat.mul_assoc]
      · have b1 : (p - (j : Int) - last).toNat = 0 := by omega
        rw [b1, Nat.shiftLeft_zero]
        by_cases c2 : last ≤ p
        · have b2 : (last - p).toNat = 0 := by omega
          have b3 : j = (p - last).toNat + (last - (p - (j : Int))).toNat := by omega
          rw [b2, rne_zero, Nat.shiftLeft_eq]
          generalize (p - last).toNat = u at *
          generalize (last - (p - (j : Int))).toNat = v at *
          subst b3
          rw [Nat.pow_add, ← Nat.mul_assoc]
          have := rne_scale (m * 2 ^ u) 0 v
          rw [Nat.zero_add, rne_zero] at this
          exact this
        · have b2 : (p - last).toNat = 0 := by omega
          have b3 : (last - (p - (j : Int))).toNat = (last - p).toNat + j := by omega
          rw [b2, Nat.shiftLeft_zero, b3, rne_scale]
    rw [key]

theorem sign_modS (s : Bool) {x : Nat} (h : x < 2147483648) : (if s = true then 2147483648 + x else x) % 2147483648 = x := by
  cases s
  · rw [if_neg (by decide)]; omega
  · rw [if_pos rfl]; omega

theorem sign_divS (s : Bool) {x : Nat} (h : x < 2147483648) : ((if s = true then 2147483648 + x else x) / 2147483648 % 2 == 1) = s := by
  cases s
  · rw [if_neg (by decide), Nat.div_eq_of_lt h]; rfl
  · rw [if_pos rfl, show (2147483648 + x) / 2147483648 = 1 by omega]; rfl

/-- What a sign and a finite rung stand for. -/
theorem read_rungS (s : Bool) (q k : Nat) (h0 : 8388608 ≤ k) (h1 : k < 16777216) (hq : q ≤ 253) : Ieee.single.read (Ieee.single.word s (q * 8388608 + k)) = .number s k (-149 + q) := by
  have hx : q * 8388608 + k < 2147483648 := by omega
  unfold Ieee.Format.read Ieee.Format.word
  simp only [e_signS, e_binS, e_infS, e_leastS]
  rw [sign_modS s hx, sign_divS s hx, if_neg (by omega), if_pos (by omega)]
  have c1 : 8388608 + (q * 8388608 + k) % 8388608 = k := by omega
  have c2 : (q * 8388608 + k) / 8388608 - 1 = q := by omega
  rw [c1, c2]

theorem read_lowS (s : Bool) (k : Nat) (h1 : k < 8388608) : Ieee.single.read (Ieee.single.word s k) = .number s k (-149) := by
  have hx : k < 2147483648 := by omega
  unfold Ieee.Format.read Ieee.Format.word
  simp only [e_signS, e_binS, e_infS, e_leastS]
  rw [sign_modS s hx, sign_divS s hx, if_pos h1]

theorem min_rungS (q k : Nat) (hq : q ≤ 253) (hk : k < 16777216) : min (q * 8388608 + k) 2139095040 = q * 8388608 + k := by
  apply Nat.min_eq_left
  omega

/-- A number that the format has, read from its word. -/
theorem read_nearestS (s : Bool) (m : Nat) (p : Int) (h0 : m ≠ 0) (h1 : m < 16777216) (h2 : -149 ≤ p) (h3 : p + m.log2 ≤ 127) :
    ∃ j : Nat, j ≤ 23 ∧ m * 2 ^ j < 16777216 ∧ Ieee.single.read (Ieee.single.nearest s m p) = .number s (m * 2 ^ j) (p - j) := by
  have hL : m.log2 ≤ 23 := by
    have := (Nat.log2_lt h0).2 (show m < 2 ^ 24 by omega)
    omega
  have hb0 := Nat.log2_self_le h0
  have hb1 : m < 2 ^ (m.log2 + 1) := Nat.lt_log2_self
  unfold Ieee.Format.nearest
  rw [if_neg h0]
  simp only [e_fracS, e_leastS, e_binS, e_infS, cut_even]
  generalize hl : m.log2 = L at *
  by_cases c : -149 < p + (L : Int) - 23
  · have a1 : max (p + (L : Int) - (23 : Nat)) (-149) = p + L - 23 := by omega
    rw [a1]
    have a2 : (p - (p + (L : Int) - 23)).toNat = 23 - L := by omega
    have a3 : (p + (L : Int) - 23 - p).toNat = 0 := by omega
    have a4 : (p + (L : Int) - 23 - -149).toNat = (p + L + 126).toNat := by omega
    rw [a2, a3, a4, rne_zero, Nat.shiftLeft_eq]
    have k0 : 8388608 ≤ m * 2 ^ (23 - L) := by
      have : 2 ^ L * 2 ^ (23 - L) = 8388608 := by rw [← Nat.pow_add, show L + (23 - L) = 23 by omega]
      rw [← this]
      exact Nat.mul_le_mul_right _ hb0
    have k1 : m * 2 ^ (23 - L) < 16777216 := by
      have : 2 ^ (L + 1) * 2 ^ (23 - L) = 16777216 := by rw [← Nat.pow_add, show L + 1 + (23 - L) = 24 by omega]
      rw [← this]
      exact Nat.mul_lt_mul_of_pos_right hb1 (Nat.two_pow_pos _)
    refine ⟨23 - L, by omega, k1, ?_⟩
    obtain ⟨q, hq1, hq2⟩ : ∃ q : Nat, (p + L + 126).toNat = q ∧ (q : Int) = p + L + 126 := ⟨(p + L + 126).toNat, rfl, by omega⟩
    have hq3 : q ≤ 253 := by omega
    have e1 : (-149 : Int) + q = p - ((23 - L : Nat) : Int) := by omega
    rw [hq1, min_rungS q _ hq3 k1, read_rungS s q _ k0 k1 hq3, e1]
  · have a1 : max (p + (L : Int) - (23 : Nat)) (-149) = -149 := by omega
    rw [a1]
    obtain ⟨j, hj⟩ : ∃ j : Nat, (p - -149).toNat = j ∧ (j : Int) = p + 149 := ⟨(p - -149).toNat, rfl, by omega⟩
    have a3 : ((-149 : Int) - p).toNat = 0 := by omega
    rw [hj.1, a3, rne_zero, Nat.shiftLeft_eq]
    have k1 : m * 2 ^ j < 16777216 := by
      have h5 : 2 ^ (L + 1) * 2 ^ j ≤ 2 ^ 24 := by rw [← Nat.pow_add]; exact Nat.pow_le_pow_right (by decide) (by omega)
      have h6 : m * 2 ^ j < 2 ^ (L + 1) * 2 ^ j := Nat.mul_lt_mul_of_pos_right hb1 (Nat.two_pow_pos _)
      omega
    refine ⟨j, by omega, k1, ?_⟩
    generalize m * 2 ^ j = k at *
    have a4 : ((-149 : Int) - -149).toNat = 0 := by omega
    have a5 := min_rungS 0 k (by omega) k1
    rw [Nat.zero_mul, Nat.zero_add] at a5
    rw [a4, Nat.zero_mul, Nat.zero_add, a5]
    by_cases c2 : k < 8388608
    · rw [read_lowS s k c2]
      congr 1
      omega
    · have := read_rungS s 0 k (by omega) k1 (by omega)
      rw [Nat.zero_mul, Nat.zero_add] at this
      rw [this]
      congr 1
      omega

end Go.Proofs.Ytcmjhgijejmiaaa
