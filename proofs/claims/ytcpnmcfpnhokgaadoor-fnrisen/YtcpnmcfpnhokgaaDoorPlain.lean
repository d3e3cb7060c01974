/- Plain facts on numbers and their bits: nothing of the program stands here. -/
import Derived.WalkKit
import Derived.Laws.BitsAllLaws
namespace Go.Proofs.YtcpnmcfpnhokgaaDoor

theorem nat_low (k x : Nat) (hk : k < 64) (hx : x < 2 ^ (k + 1)) : x &&& (18446744073709551615 - 2 ^ k) = x % 2 ^ k := by
  have e : 18446744073709551615 - 2 ^ k = 2 ^ 64 - (2 ^ k + 1) := by omega
  have h2 : 2 ^ k < 2 ^ 64 := Nat.pow_lt_pow_right (by omega) hk
  rw [e]
  apply Nat.eq_of_testBit_eq
  intro i
  rw [Nat.testBit_and, Nat.testBit_two_pow_sub_succ h2, Nat.testBit_mod_two_pow, Nat.testBit_two_pow]
  by_cases h1 : i < k
  · have : ¬ k = i := by omega
    have : i < 64 := by omega
    simp [*]
  · by_cases h3 : k = i
    · simp [h3]
    · have : x.testBit i = false := Nat.testBit_lt_two_pow (Nat.lt_of_lt_of_le hx (Nat.pow_le_pow_right (by omega) (by omega)))
      simp [this]

theorem and_top (k : Nat) (x : Int) (hk : k < 64) (h0 : 0 ≤ x) (hx : x < ((2 ^ (k + 1) : Nat) : Int)) :
    bits .and .u64 x ((2 ^ k : Nat) : Int) = (if x < ((2 ^ k : Nat) : Int) then 0 else ((2 ^ k : Nat) : Int)) ∧
    bits .andNot .u64 x ((2 ^ k : Nat) : Int) = (if x < ((2 ^ k : Nat) : Int) then x else x - ((2 ^ k : Nat) : Int)) := by
  obtain ⟨n, rfl⟩ := Int.eq_ofNat_of_zero_le h0
  have hn : n < 2 ^ (k + 1) := by exact_mod_cast hx
  have h2 : 2 ^ k < 2 ^ 64 := Nat.pow_lt_pow_right (by omega) hk
  have h3 : 2 ^ (k + 1) ≤ 2 ^ 64 := Nat.pow_le_pow_right (by omega) (by omega)
  have h4 : 2 ^ (k + 1) = 2 * 2 ^ k := by rw [Nat.pow_succ]; omega
  have h5 : 0 < 2 ^ k := Nat.two_pow_pos k
  have e1 := u64_and_nat n (2 ^ k) (by omega) (by omega)
  have e2 := u64_andNot_nat n (2 ^ k) (by omega) (by omega)
  rw [nat_bit] at e1
  rw [nat_low k n hk hn] at e2
  rw [e1, e2]
  generalize 2 ^ k = m at *
  by_cases h : n < m
  · have a1 : n / m = 0 := Nat.div_eq_of_lt h
    have a2 : n % m = n := Nat.mod_eq_of_lt h
    rw [a1, a2, if_pos (by exact_mod_cast h), if_pos (by exact_mod_cast h)]
    simp
  · have a1 : n / m = 1 := by
      apply Nat.div_eq_of_lt_le <;> omega
    have a2 : n % m = n - m := by rw [Nat.mod_eq_sub_mod (by omega), Nat.mod_eq_of_lt (by omega)]
    rw [a1, a2, if_neg (by omega), if_neg (by omega)]
    simp
    omega

theorem and16 (x : Int) (h0 : 0 ≤ x) (h1 : x < 65536) : bits .and .u64 x 32768 = (if x < 32768 then 0 else 32768) ∧ bits .andNot .u64 x 32768 = (if x < 32768 then x else x - 32768) := and_top 15 x (by omega) h0 h1
theorem and32 (x : Int) (h0 : 0 ≤ x) (h1 : x < 4294967296) : bits .and .u64 x 2147483648 = (if x < 2147483648 then 0 else 2147483648) ∧ bits .andNot .u64 x 2147483648 = (if x < 2147483648 then x else x - 2147483648) := and_top 31 x (by omega) h0 h1
theorem and64 (x : Int) (h0 : 0 ≤ x) (h1 : x < 18446744073709551616) : bits .and .u64 x 9223372036854775808 = (if x < 9223372036854775808 then 0 else 9223372036854775808) ∧ bits .andNot .u64 x 9223372036854775808 = (if x < 9223372036854775808 then x else x - 9223372036854775808) := and_top 63 x (by omega) h0 h1

/-- What 'rank' answers, where x is bits of a form whose sign bit is S. -/
def rk (S x l : Int) : Int := if x < S then x else -(x - S) - l
end Go.Proofs.YtcpnmcfpnhokgaaDoor
