/- Floats doubled and halved. -/
import Derived.Test.YtlcfcdpgggocnaaG1
namespace Go.Proofs.Ytlcfcdpgggocnaa

theorem log2_scale (n j : Nat) (h : n ≠ 0) : (n * 2 ^ j).log2 = n.log2 + j := by
  refine log2_eq ?_ ?_
  · rw [Nat.pow_add]
    exact Nat.mul_le_mul_right _ (Nat.log2_self_le h)
  · rw [Nat.add_right_comm, Nat.pow_add]
    exact Nat.mul_lt_mul_of_pos_right Nat.lt_log2_self (Nat.two_pow_pos j)

theorem rne_scale (n d j : Nat) : rne (n * 2 ^ j) (d + j) = rne n d := by
  have hp : 0 < 2 ^ j := Nat.two_pow_pos j
  unfold rne
  rw [Nat.pow_add, Nat.mul_div_mul_right _ _ hp, Nat.mul_mod_mul_right]
  have e1 : decide (2 ^ d * 2 ^ j < 2 * (n % 2 ^ d * 2 ^ j)) = decide (2 ^ d < 2 * (n % 2 ^ d)) := by
    rw [← Nat.mul_assoc]
    exact decide_eq_decide.2 ⟨fun h => Nat.lt_of_mul_lt_mul_right h, fun h => Nat.mul_lt_mul_of_pos_right h hp⟩
  have e2 : (2 ^ d * 2 ^ j == 2 * (n % 2 ^ d * 2 ^ j)) = (2 ^ d == 2 * (n % 2 ^ d)) := by
    rw [← Nat.mul_assoc, Bool.eq_iff_iff, beq_iff_eq, beq_iff_eq]
    exact ⟨fun h => Nat.eq_of_mul_eq_mul_right hp h, fun h => congrArg (· * 2 ^ j) h⟩
  rw [e1, e2]

theorem rne_zero (n : Nat) : rne n 0 = n := by unfold rne; simp [Nat.mod_one]

/-- What is written hangs on the number alone. -/
theorem nearest_scale (s : Bool) (m j : Nat) (p : Int) : Ieee.double.nearest s (m * 2 ^ j) (p - j) = Ieee.double.nearest s m p := by
  by_cases h : m = 0
  · subst h; simp [Ieee.Format.nearest]
  · have hp : 0 < 2 ^ j := Nat.two_pow_pos j
    have hne : m * 2 ^ j ≠ 0 := Nat.mul_ne_zero h (by omega)
    unfold Ieee.Format.nearest
    rw [if_neg h, if_neg hne, log2_scale m j h]
    simp only [e_frac, e_least, e_bin, e_inf, cut_even]
    have a1 : max (p - (j : Int) + ((m.log2 + j : Nat) : Int) - (52 : Nat)) (-1074) = max (p + (m.log2 : Int) - (52 : Nat)) (-1074) := by omega
    rw [a1]
    generalize max (p + (m.log2 : Int) - (52 : Nat)) (-1074) = last
    have key : rne ((m * 2 ^ j) <<< (p - (j : Int) - last).toNat) (last - (p - (j : Int))).toNat = rne (m <<< (p - last).toNat) (last - p).toNat := by
      by_cases c : last ≤ p - j
      · have b1 : (last - (p - (j : Int))).toNat = 0 := by omega
        have b2 : (last - p).toNat = 0 := by omega
        have b3 : (p - last).toNat = j + (p - (j : Int) - last).toNat := by omega
        rw [b1, b2, b3, rne_zero, rne_zero, Nat.shiftLeft_eq, Nat.shiftLeft_eq, Nat.pow_add, Nat.mul_assoc]
      · have b1 : (p - (j : Int) - last).toNat = 0 := by omega
        rw [b1, Nat.shiftLeft_zero]
        by_cases c2 : last ≤ p
        · have b2 : (last - p).toNat = 0 := by omega
          have b3 : j = (p - last).toNat + (last - (p - (j : Int))).toNat := by omega
          rw [b2, rne_zero, Nat.shiftLeft_eq]
          generalize (p - last).toNat = u at *
          generalize (last - (p - (j : Int))).toNat = v at *
          subst b3
          rw [Nat.pow_add, ← Nat.mul_assoc]
          have := rne_scale (m * 2 ^ u) 0 v
          rw [Nat.zero_add, rne_zero] at this
          exact this
        · have b2 : (p - last).toNat = 0 := by omega
          have b3 : (last - (p - (j : Int))).toNat = (last - p).toNat + j := by omega
          rw [b2, Nat.shiftLeft_zero, b3, rne_scale]
    rw [key]

theorem sign_mod (s : Bool) {x : Nat} (h : x < 9223372036854775808) : (if s = true then 9223372036854775808 + x else x) % 9223372036854775808 = x := by
  cases s
  · rw [if_neg (by decide)]; omega
  · rw [if_pos rfl]; omega

theorem sign_div (s : Bool) {x : Nat} (h : x < 9223372036854775808) : ((if s = true then 9223372036854775808 + x else x) / 9223372036854775808 % 2 == 1) = s := by
  cases s
  · rw [if_neg (by decide), Nat.div_eq_of_lt h]; rfl
  · rw [if_pos rfl, show (9223372036854775808 + x) / 9223372036854775808 = 1 by omega]; rfl

/-- What a sign and a finite rung stand for. -/
theorem read_rung (s : Bool) (q k : Nat) (h0 : 4503599627370496 ≤ k) (h1 : k < 9007199254740992) (hq : q ≤ 2045) : Ieee.double.read (Ieee.double.word s (q * 4503599627370496 + k)) = .number s k (-1074 + q) := by
  have hx : q * 4503599627370496 + k < 9223372036854775808 := by omega
  unfold Ieee.Format.read Ieee.Format.word
  simp only [e_sign, e_bin, e_inf, e_least]
  rw [sign_mod s hx, sign_div s hx, if_neg (by omega), if_pos (by omega)]
  have c1 : 4503599627370496 + (q * 4503599627370496 + k) % 4503599627370496 = k := by omega
  have c2 : (q * 4503599627370496 + k) / 4503599627370496 - 1 = q := by omega
  rw [c1, c2]

theorem read_low (s : Bool) (k : Nat) (h1 : k < 4503599627370496) : Ieee.double.read (Ieee.double.word s k) = .number s k (-1074) := by
  have hx : k < 9223372036854775808 := by omega
  unfold Ieee.Format.read Ieee.Format.word
  simp only [e_sign, e_bin, e_inf, e_least]
  rw [sign_mod s hx, sign_div s hx, if_pos h1]

theorem min_rung (q k : Nat) (hq : q ≤ 2045) (hk : k < 9007199254740992) : min (q * 4503599627370496 + k) 9218868437227405312 = q * 4503599627370496 + k := by
  apply Nat.min_eq_left
  omega

/-- A number that the format has, read from its word. -/
theorem read_nearest (s : Bool) (m : Nat) (p : Int) (h0 : m ≠ 0) (h1 : m < 9007199254740992) (h2 : -1074 ≤ p) (h3 : p + m.log2 ≤ 1023) :
    ∃ j : Nat, j ≤ 52 ∧ m * 2 ^ j < 9007199254740992 ∧ Ieee.double.read (Ieee.double.nearest s m p) = .number s (m * 2 ^ j) (p - j) := by
  have hL : m.log2 ≤ 52 := by
    have := (Nat.log2_lt h0).2 (show m < 2 ^ 53 by omega)
    omega
  have hb0 := Nat.log2_self_le h0
  have hb1 : m < 2 ^ (m.log2 + 1) := Nat.lt_log2_self
  unfold Ieee.Format.nearest
  rw [if_neg h0]
  simp only [e_frac, e_least, e_bin, e_inf, cut_even]
  generalize hl : m.log2 = L at *
  by_cases c : -1074 < p + (L : Int) - 52
  · have a1 : max (p + (L : Int) - (52 : Nat)) (-1074) = p + L - 52 := by omega
    rw [a1]
    have a2 : (p - (p + (L : Int) - 52)).toNat = 52 - L := by omega
    have a3 : (p + (L : Int) - 52 - p).toNat = 0 := by omega
    have a4 : (p + (L : Int) - 52 - -1074).toNat = (p + L + 1022).toNat := by omega
    rw [a2, a3, a4, rne_zero, Nat.shiftLeft_eq]
    have k0 : 4503599627370496 ≤ m * 2 ^ (52 - L) := by
      have : 2 ^ L * 2 ^ (52 - L) = 4503599627370496 := by rw [← Nat.pow_add, show L + (52 - L) = 52 by omega]
      rw [← this]
      exact Nat.mul_le_mul_right _ hb0
    have k1 : m * 2 ^ (52 - L) < 9007199254740992 := by
      have : 2 ^ (L + 1) * 2 ^ (52 - L) = 9007199254740992 := by rw [← Nat.pow_add, show L + 1 + (52 - L) = 53 by omega]
      rw [← this]
      exact Nat.mul_lt_mul_of_pos_right hb1 (Nat.two_pow_pos _)
    refine ⟨52 - L, by omega, k1, ?_⟩
    obtain ⟨q, hq1, hq2⟩ : ∃ q : Nat, (p + L + 1022).toNat = q ∧ (q : Int) = p + L + 1022 := ⟨(p + L + 1022).toNat, rfl, by omega⟩
    have hq3 : q ≤ 2045 := by omega
    have e1 : (-1074 : Int) + q = p - ((52 - L : Nat) : Int) := by omega
    rw [hq1, min_rung q _ hq3 k1, read_rung s q _ k0 k1 hq3, e1]
  · have a1 : max (p + (L : Int) - (52 : Nat)) (-1074) = -1074 := by omega
    rw [a1]
    obtain ⟨j, hj⟩ : ∃ j : Nat, (p - -1074).toNat = j ∧ (j : Int) = p + 1074 := ⟨(p - -1074).toNat, rfl, by omega⟩
    have a3 : ((-1074 : Int) - p).toNat = 0 := by omega
    rw [hj.1, a3, rne_zero, Nat.shiftLeft_eq]
    have k1 : m * 2 ^ j < 9007199254740992 := by
      have h5 : 2 ^ (L + 1) * 2 ^ j ≤ 2 ^ 53 := by rw [← Nat.pow_add]; exact Nat.pow_le_pow_right (by decide) (by omega)
      have h6 : m * 2 ^ j < 2 ^ (L + 1) * 2 ^ j := Nat.mul_lt_mul_of_pos_right hb1 (Nat.two_pow_pos _)
      omega
    refine ⟨j, by omega, k1, ?_⟩
    generalize m * 2 ^ j = k at *
    have a4 : ((-1074 : Int) - -1074).toNat = 0 := by omega
    have a5 := min_rung 0 k (by omega) k1
    rw [Nat.zero_mul, Nat.zero_add] at a5
    rw [a4, Nat.zero_mul, Nat.zero_add, a5]
    by_cases c2 : k < 4503599627370496
    · rw [read_low s k c2]
      congr 1
      omega
    · have := read_rung s 0 k (by omega) k1 (by omega)
      rw [Nat.zero_mul, Nat.zero_add] at this
      rw [this]
      congr 1
      omega

theorem read_two : Ieee.double.read 4611686018427387904 = .number false 4503599627370496 (-51) := by decide +kernel

/-- Doubled. -/
theorem twice (s : Bool) (m : Nat) (p : Int) (h0 : m ≠ 0) (h1 : m < 9007199254740992) (h2 : -1074 ≤ p) (h3 : p + m.log2 ≤ 1023) :
    floatBits .mul .f64 (Ieee.double.nearest s m p) 4611686018427387904 = some (Ieee.double.nearest s m (p + 1)) := by
  obtain ⟨j, _, _, hr⟩ := read_nearest s m p h0 h1 h2 h3
  show ((Ieee.double.read (Ieee.double.nearest s m p)).product (Ieee.double.read 4611686018427387904)).map Ieee.double.write = _
  rw [hr, read_two]
  simp only [Ieee.Datum.product, Option.map_some, Ieee.Format.write, Bool.xor_false]
  rw [← nearest_scale s m (j + 52) (p + 1), Nat.pow_add, ← Nat.mul_assoc]
  congr 2
  omega

/-- Halved. -/
theorem half (s : Bool) (m : Nat) (p : Int) (h0 : m ≠ 0) (h1 : m < 9007199254740992) (h2 : -1074 ≤ p) (h3 : p + m.log2 ≤ 1023) :
    floatBits .quo .f64 (Ieee.double.nearest s m p) 4611686018427387904 = some (Ieee.double.nearest s m (p - 1)) := by
  obtain ⟨j, _, hk, hr⟩ := read_nearest s m p h0 h1 h2 h3
  show ((Ieee.double.read (Ieee.double.nearest s m p)).quotient 54 (Ieee.double.read 4611686018427387904)).map Ieee.double.write = _
  rw [hr, read_two]
  have hk0 : m * 2 ^ j ≠ 0 := Nat.mul_ne_zero h0 (by have := Nat.two_pow_pos j; omega)
  have hL : (m * 2 ^ j).log2 ≤ 52 := by
    have := (Nat.log2_lt hk0).2 (show m * 2 ^ j < 2 ^ 53 by omega)
    omega
  simp only [Ieee.Datum.quotient, Bool.xor_false]
  rw [if_neg (by decide)]
  simp only [Option.map_some]
  have l52 : Nat.log2 4503599627370496 = 52 := by decide +kernel
  rw [l52]
  obtain ⟨u, hu⟩ : ∃ u, 54 + 52 - (m * 2 ^ j).log2 = 52 + u := ⟨54 - (m * 2 ^ j).log2, by omega⟩
  rw [hu, Nat.shiftLeft_eq]
  have e1 : m * 2 ^ j * 2 ^ (52 + u) = m * 2 ^ j * 2 ^ u * 4503599627370496 := by
    rw [Nat.add_comm, Nat.pow_add, ← Nat.mul_assoc]
  rw [e1, Nat.mul_div_cancel _ (by decide), Nat.mul_mod_left]
  have e2 : 2 * (m * 2 ^ j * 2 ^ u) + ((0 : Nat) != 0).toNat = m * 2 ^ (j + u + 1) := by
    rw [Nat.pow_add, Nat.pow_add, Nat.pow_one]
    show 2 * (m * 2 ^ j * 2 ^ u) + 0 = _
    rw [Nat.add_zero]
    ac_rfl
  have e3 : p - (j : Int) - -51 - ((52 + u : Nat) : Int) - 1 = p - 1 - ((j + u + 1 : Nat) : Int) := by omega
  rw [e2, e3]
  exact congrArg some (nearest_scale s m (j + u + 1) (p - 1))

/-- A word is what is written of what it stands for. -/
theorem write_read {x : Nat} (hx : x < 18446744073709551616) {s : Bool} {m : Nat} {p : Int} (h : Ieee.double.read x = .number s m p) : Ieee.double.nearest s m p = x := by
  rcases read_cases x hx with h1 | ⟨s1, h1, _⟩ | ⟨s1, h1, hw⟩ | ⟨s1, m1, d, hd, hd1, h0, h2, h3, h1, hw⟩ | ⟨s1, m1, e, he, h0, h2, h1, hw⟩
  · rw [h] at h1; cases h1
  · rw [h] at h1; cases h1
  · rw [h] at h1
    cases h1
    rw [hw]; rfl
  · rw [h] at h1
    cases h1
    rw [hw]
    unfold Ieee.Format.nearest
    rw [if_neg (by omega)]
    simp only [e_frac, e_least, e_bin, e_inf, cut_even]
    have hL : m.log2 ≤ 52 := by
      have := (Nat.log2_lt (show m ≠ 0 by omega)).2 (show m < 2 ^ 53 by omega)
      omega
    have a1 : max (-(d : Int) + (m.log2 : Int) - (52 : Nat)) (-1074) = -(d : Int) := by
      rcases h3 with h3 | h3
      · have : m.log2 = 52 := log2_eq (by omega) (by omega)
        omega
      · omega
    have a2 : (-(d : Int) - -(d : Int)).toNat = 0 := by omega
    have a3 : (-(d : Int) - -1074).toNat = 1074 - d := by omega
    rw [a1, a2, a3, Nat.shiftLeft_zero, rne_zero]
    congr 1
    omega
  · rw [h] at h1
    cases h1
    rw [hw, ← nearest_great s m e he h0 h2, Nat.shiftLeft_eq]
    have := nearest_scale s m e (e : Int)
    rw [Int.sub_self] at this
    exact this.symm
end Go.Proofs.Ytlcfcdpgggocnaa
