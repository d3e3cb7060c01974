/- Floats of 64 bits as whole numbers of steps: rounding to the nearest, ties to even. -/
import Derived.Laws.FloatArith
namespace Go.Proofs.Ytlcfcdpgggocnaa

/-- n by 2 ^ d to the nearest whole number, of two as near the even one. -/
def rne (n d : Nat) : Nat := n / 2 ^ d + (decide (2 ^ d < 2 * (n % 2 ^ d)) || (2 ^ d == 2 * (n % 2 ^ d) && n / 2 ^ d % 2 == 1)).toNat

theorem cut_even (neg : Bool) (n d : Nat) : Ieee.Toward.even.cut neg n d = rne n d := by
  unfold Ieee.Toward.cut rne
  simp only [Nat.one_shiftLeft]
  by_cases h : d ≤ n.log2 + 2
  · rw [Nat.min_eq_left h]
  · rw [Nat.min_eq_right (by omega)]
    have h1 : n < 2 ^ (n.log2 + 1) := Nat.lt_log2_self
    have h2 : 2 ^ (n.log2 + 2) = 2 * 2 ^ (n.log2 + 1) := by rw [Nat.pow_succ]; omega
    have h3 : 2 ^ (n.log2 + 2) ≤ 2 ^ d := Nat.pow_le_pow_right (by decide) (by omega)
    generalize 2 ^ (n.log2 + 1) = a at *
    generalize 2 ^ (n.log2 + 2) = b at *
    generalize 2 ^ d = c at *
    rw [Nat.div_eq_of_lt (show n < b by omega), Nat.div_eq_of_lt (show n < c by omega), Nat.mod_eq_of_lt (show n < b by omega), Nat.mod_eq_of_lt (show n < c by omega)]
    have e1 : decide (b < 2 * n) = false := by simp; omega
    have e2 : decide (c < 2 * n) = false := by simp; omega
    have e3 : (b == 2 * n) = false := by simp; omega
    have e4 : (c == 2 * n) = false := by simp; omega
    rw [e1, e2, e3, e4]

theorem rne_add (m d q : Nat) (hq : q % 2 = 0) : rne (m + q * 2 ^ d) d = q + rne m d := by
  have hp : 0 < 2 ^ d := Nat.two_pow_pos d
  unfold rne
  rw [Nat.add_mul_mod_self_right, Nat.add_mul_div_right _ _ hp]
  have e : (m / 2 ^ d + q) % 2 = m / 2 ^ d % 2 := by omega
  rw [e]
  omega

theorem rne_le (m d b : Nat) (h : m ≤ b * 2 ^ d) : rne m d ≤ b := by
  have hp : 0 < 2 ^ d := Nat.two_pow_pos d
  unfold rne
  by_cases h1 : m / 2 ^ d < b
  · have : (decide (2 ^ d < 2 * (m % 2 ^ d)) || (2 ^ d == 2 * (m % 2 ^ d) && m / 2 ^ d % 2 == 1)).toNat ≤ 1 := Bool.toNat_le _
    omega
  · have h2 : m / 2 ^ d ≤ b := by
      rw [Nat.div_le_iff_le_mul_add_pred hp, Nat.mul_comm]; omega
    have h3 : m / 2 ^ d = b := by omega
    have h4 := Nat.div_add_mod m (2 ^ d)
    have h5 : m % 2 ^ d = 0 := by rw [h3, Nat.mul_comm] at h4; omega
    rw [h5, h3]
    have e2 : (2 ^ d == 2 * 0) = false := by simp
    simp [e2]

theorem log2_eq {n k : Nat} (h0 : 2 ^ k ≤ n) (h1 : n < 2 ^ (k + 1)) : n.log2 = k := by
  have hn : n ≠ 0 := by have := Nat.two_pow_pos k; omega
  have a : k ≤ n.log2 := (Nat.le_log2 hn).2 h0
  have b : n.log2 < k + 1 := (Nat.log2_lt hn).2 h1
  omega

theorem e_sign : Ieee.double.signWeight = 9223372036854775808 := by decide
theorem e_inf : Ieee.double.infRung = 9218868437227405312 := by decide
theorem e_bin : Ieee.double.binade = 4503599627370496 := by decide
theorem e_least : Ieee.double.leastPlace = -1074 := by decide
theorem e_frac : Ieee.double.fractionBits = 52 := by decide
end Go.Proofs.Ytlcfcdpgggocnaa
