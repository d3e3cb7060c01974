/- G0 G1 G5 V1 C1. -/
import Derived.Laws.FloatArith
import Derived.Test.YtddbekacdfohpaaGreatDoorM01
namespace Go.Proofs.YtddbekacdfohpaaGreatDoor

/-- n by 2 ^ d to the nearest whole number, of two as near the even one. -/
def rne (n d : Nat) : Nat := n / 2 ^ d + (decide (2 ^ d < 2 * (n % 2 ^ d)) || (2 ^ d == 2 * (n % 2 ^ d) && n / 2 ^ d % 2 == 1)).toNat

theorem cut_even (neg : Bool) (n d : Nat) : Ieee.Toward.even.cut neg n d = rne n d := by
  unfold Ieee.Toward.cut rne
  simp only [Nat.one_shiftLeft]
  by_cases h : d ≤ n.log2 + 2
  · rw [Nat.min_eq_left h]
  · rw [Nat.min_eq_right (by omega)]
    have h1 : n < 2 ^ (n.log2 + 1) := Nat.lt_log2_self
    have h2 : 2 ^ (n.log2 + 2) = 2 * 2 ^ (n.log2 + 1) := by rw [Nat.pow_succ]; omega
    have h3 : 2 ^ (n.log2 + 2) ≤ 2 ^ d := Nat.pow_le_pow_right (by decide) (by omega)
    generalize 2 ^ (n.log2 + 1) = a at *
    generalize 2 ^ (n.log2 + 2) = b at *
    generalize 2 ^ d = c at *
    rw [Nat.div_eq_of_lt (show n < b by omega), Nat.div_eq_of_lt (show n < c by omega), Nat.mod_eq_of_lt (show n < b by omega), Nat.mod_eq_of_lt (show n < c by omega)]
    have e1 : decide (b < 2 * n) = false := by simp; omega
    have e2 : decide (c < 2 * n) = false := by simp; omega
    have e3 : (b == 2 * n) = false := by simp; omega
    have e4 : (c == 2 * n) = false := by simp; omega
    rw [e1, e2, e3, e4]

theorem rne_add (m d q : Nat) (hq : q % 2 = 0) : rne (m + q * 2 ^ d) d = q + rne m d := by
  have hp : 0 < 2 ^ d := Nat.two_pow_pos d
  unfold rne
  rw [Nat.add_mul_mod_self_right, Nat.add_mul_div_right _ _ hp]
  have e : (m / 2 ^ d + q) % 2 = m / 2 ^ d % 2 := by omega
  rw [e]
  omega

theorem rne_le (m d b : Nat) (h : m ≤ b * 2 ^ d) : rne m d ≤ b := by
  have hp : 0 < 2 ^ d := Nat.two_pow_pos d
  unfold rne
  by_cases h1 : m / 2 ^ d < b
  · have : (decide (2 ^ d < 2 * (m % 2 ^ d)) || (2 ^ d == 2 * (m % 2 ^ d) && m / 2 ^ d % 2 == 1)).toNat ≤ 1 := Bool.toNat_le _
    omega
  · have h2 : m / 2 ^ d ≤ b := by
      rw [Nat.div_le_iff_le_mul_add_pred hp, Nat.mul_comm]; omega
    have h3 : m / 2 ^ d = b := by omega
    have h4 := Nat.div_add_mod m (2 ^ d)
    have h5 : m % 2 ^ d = 0 := by rw [h3, Nat.mul_comm] at h4; omega
    rw [h5, h3]
    have e2 : (2 ^ d == 2 * 0) = false := by simp
    simp [e2]

theorem log2_eq {n k : Nat} (h0 : 2 ^ k ≤ n) (h1 : n < 2 ^ (k + 1)) : n.log2 = k := by
  have hn : n ≠ 0 := by have := Nat.two_pow_pos k; omega
  have a : k ≤ n.log2 := (Nat.le_log2 hn).2 h0
  have b : n.log2 < k + 1 := (Nat.log2_lt hn).2 h1
  omega

theorem e_sign : Ieee.double.signWeight = 9223372036854775808 := by decide
theorem e_inf : Ieee.double.infRung = 9218868437227405312 := by decide
theorem e_bin : Ieee.double.binade = 4503599627370496 := by decide
theorem e_least : Ieee.double.leastPlace = -1074 := by decide
theorem e_frac : Ieee.double.fractionBits = 52 := by decide
end Go.Proofs.YtddbekacdfohpaaGreatDoor

namespace Go.Proofs.YtddbekacdfohpaaGreatDoor

theorem read_c : Ieee.double.read 4841369599423283200 = .number false 4503599627370496 0 := by decide +kernel
theorem read_cn : Ieee.double.read 14064741636278059008 = .number true 4503599627370496 0 := by decide +kernel

theorem nearest_big (neg : Bool) (m d : Nat) (hd : d ≤ 1074) (hm : m < 4503599627370496 * 2 ^ d) :
    Ieee.double.nearest neg (m + 4503599627370496 * 2 ^ d) (-(d : Int)) = Ieee.double.word neg (4841369599423283200 + rne m d) := by
  have hp : 0 < 2 ^ d := Nat.two_pow_pos d
  have hl : (m + 4503599627370496 * 2 ^ d).log2 = 52 + d := log2_eq (by rw [Nat.pow_add]; omega) (by rw [Nat.add_right_comm, Nat.pow_add]; omega)
  have hq := rne_le m d 4503599627370496 (by omega)
  unfold Ieee.Format.nearest
  rw [if_neg (by omega), hl]
  simp only [e_frac, e_least, e_bin, e_inf, cut_even]
  have e1 : max (-(d : Int) + ((52 + d : Nat) : Int) - (52 : Nat)) (-1074) = 0 := by omega
  have e2 : (-(d : Int) - 0).toNat = 0 := by omega
  have e3 : ((0 : Int) - -(d : Int)).toNat = d := by omega
  rw [e1, e2, e3, Nat.shiftLeft_zero, rne_add m d _ (by decide)]
  congr 1
  omega

theorem read_big (q : Nat) (h : q ≤ 4503599627370496) : Ieee.double.read (4841369599423283200 + q) = .number false (4503599627370496 + q) 0 ∨ (q = 4503599627370496 ∧ Ieee.double.read (4841369599423283200 + q) = .number false 4503599627370496 1) := by
  by_cases h1 : q = 4503599627370496
  · subst h1
    exact Or.inr ⟨rfl, by decide +kernel⟩
  · left
    unfold Ieee.Format.read
    simp only [e_sign, e_bin, e_inf, e_least]
    have a1 : (4841369599423283200 + q) / 9223372036854775808 = 0 := by omega
    have a2 : (4841369599423283200 + q) % 9223372036854775808 = 4841369599423283200 + q := by omega
    have a3 : (4841369599423283200 + q) % 4503599627370496 = q := by omega
    have a4 : (4841369599423283200 + q) / 4503599627370496 = 1075 := by omega
    rw [a1, a2, if_neg (by omega), if_pos (by omega), a3, a4]
    rfl

theorem whole_back (q : Nat) (h : q ≤ 4503599627370496) : floatBits .sub .f64 (4841369599423283200 + q) 4841369599423283200 = some (Ieee.double.nearest false q 0) := by
  show ((Ieee.double.read (4841369599423283200 + q)).sum (Ieee.double.read 4841369599423283200).opposite).map Ieee.double.write = _
  rw [read_c]
  rcases read_big q h with e | ⟨rfl, e⟩
  · rw [e]
    have t : Ieee.signed false (4503599627370496 + q) ((0 : Int) - min 0 0).toNat + Ieee.signed true 4503599627370496 ((0 : Int) - min 0 0).toNat = (q : Int) := by
      simp [Ieee.signed]; omega
    simp only [Ieee.Datum.opposite, Ieee.Datum.sum, Option.map_some, Bool.not_false]
    rw [t]
    by_cases h0 : q = 0
    · subst h0; rfl
    · have n1 : ¬ (q : Int) = 0 := by omega
      have n2 : decide ((q : Int) < 0) = false := by simp
      rw [if_neg n1, n2]
      rfl
  · rw [e]
    rfl

theorem plus_c {x m d : Nat} (hx : Ieee.double.read x = .number false m (-(d : Int))) (hd : d ≤ 1074) (hm : m < 4503599627370496 * 2 ^ d) :
    floatBits .add .f64 x 4841369599423283200 = some (4841369599423283200 + rne m d) := by
  show ((Ieee.double.read x).sum (Ieee.double.read 4841369599423283200)).map Ieee.double.write = _
  rw [hx, read_c]
  have hp : 0 < 2 ^ d := Nat.two_pow_pos d
  have b : min (-(d : Int)) 0 = -(d : Int) := by omega
  have t : Ieee.signed false m (-(d : Int) - -(d : Int)).toNat + Ieee.signed false 4503599627370496 ((0 : Int) - -(d : Int)).toNat = ((m + 4503599627370496 * 2 ^ d : Nat) : Int) := by
    have e1 : (-(d : Int) - -(d : Int)).toNat = 0 := by omega
    have e2 : ((0 : Int) - -(d : Int)).toNat = d := by omega
    rw [e1, e2]
    simp [Ieee.signed, Nat.shiftLeft_eq]
  simp only [Ieee.Datum.sum, Option.map_some]
  rw [b, t, if_neg (by omega), decide_eq_false (by omega)]
  simp only [Ieee.Format.write, Int.natAbs_natCast]
  rw [nearest_big false m d hd hm]
  rfl

theorem c_minus {x m d : Nat} (hx : Ieee.double.read x = .number true m (-(d : Int))) (hd : d ≤ 1074) (hm : m < 4503599627370496 * 2 ^ d) :
    floatBits .sub .f64 4841369599423283200 x = some (4841369599423283200 + rne m d) := by
  show ((Ieee.double.read 4841369599423283200).sum (Ieee.double.read x).opposite).map Ieee.double.write = _
  rw [hx, read_c]
  have hp : 0 < 2 ^ d := Nat.two_pow_pos d
  have b : min (0 : Int) (-(d : Int)) = -(d : Int) := by omega
  have t : Ieee.signed false 4503599627370496 ((0 : Int) - -(d : Int)).toNat + Ieee.signed false m (-(d : Int) - -(d : Int)).toNat = ((m + 4503599627370496 * 2 ^ d : Nat) : Int) := by
    have e1 : (-(d : Int) - -(d : Int)).toNat = 0 := by omega
    have e2 : ((0 : Int) - -(d : Int)).toNat = d := by omega
    rw [e1, e2]
    simp [Ieee.signed, Nat.shiftLeft_eq]; omega
  simp only [Ieee.Datum.sum, Option.map_some, Ieee.Datum.opposite, Bool.not_true]
  rw [b, t, if_neg (by omega), decide_eq_false (by omega)]
  simp only [Ieee.Format.write, Int.natAbs_natCast]
  rw [nearest_big false m d hd hm]
  rfl

/-- What a word stands for, and what word it is. -/
theorem read_cases (x : Nat) (hx : x < 18446744073709551616) :
    (Ieee.double.read x).isNaN = true ∨ (∃ s, Ieee.double.read x = .infinity s ∧ x = Ieee.double.word s 9218868437227405312) ∨
    (∃ s, Ieee.double.read x = .number s 0 (-1074) ∧ x = Ieee.double.word s 0) ∨
    (∃ (s : Bool) (m d : Nat), d ≤ 1074 ∧ 1 ≤ d ∧ 0 < m ∧ m < 9007199254740992 ∧ (4503599627370496 ≤ m ∨ d = 1074) ∧ Ieee.double.read x = .number s m (-(d : Int)) ∧ x = Ieee.double.word s ((1074 - d) * 4503599627370496 + m)) ∨
    (∃ (s : Bool) (m e : Nat), e ≤ 971 ∧ 4503599627370496 ≤ m ∧ m < 9007199254740992 ∧ Ieee.double.read x = .number s m (e : Int) ∧ x = Ieee.double.word s ((1074 + e) * 4503599627370496 + m)) := by
  unfold Ieee.Format.word
  unfold Ieee.Format.read
  simp only [e_sign, e_bin, e_inf, e_least]
  generalize hs : (x / 9223372036854775808 % 2 == 1) = s
  have hx2 : x = (if s = true then 9223372036854775808 + x % 9223372036854775808 else x % 9223372036854775808) := by
    cases s
    · have : x / 9223372036854775808 % 2 ≠ 1 := by simpa using hs
      simp; omega
    · have : x / 9223372036854775808 % 2 = 1 := by simpa using hs
      simp; omega
  generalize hk : x % 9223372036854775808 = k at *
  by_cases h1 : k < 4503599627370496
  · rw [if_pos h1]
    by_cases h0 : k = 0
    · subst h0
      exact Or.inr (Or.inr (Or.inl ⟨s, rfl, hx2⟩))
    · exact Or.inr (Or.inr (Or.inr (Or.inl ⟨s, k, 1074, by omega, by omega, by omega, by omega, Or.inr rfl, rfl, by simpa using hx2⟩)))
  · rw [if_neg h1]
    by_cases h2 : k < 9218868437227405312
    · rw [if_pos h2]
      by_cases h3 : k / 4503599627370496 ≤ 1074
      · refine Or.inr (Or.inr (Or.inr (Or.inl ⟨s, 4503599627370496 + k % 4503599627370496, 1075 - k / 4503599627370496, by omega, by omega, by omega, by omega, Or.inl (by omega), ?_, ?_⟩)))
        · congr 1
          omega
        · rw [show (1074 - (1075 - k / 4503599627370496)) * 4503599627370496 + (4503599627370496 + k % 4503599627370496) = k by omega]
          exact hx2
      · refine Or.inr (Or.inr (Or.inr (Or.inr ⟨s, 4503599627370496 + k % 4503599627370496, k / 4503599627370496 - 1075, by omega, by omega, by omega, ?_, ?_⟩)))
        · congr 1
          omega
        · rw [show (1074 + (k / 4503599627370496 - 1075)) * 4503599627370496 + (4503599627370496 + k % 4503599627370496) = k by omega]
          exact hx2
    · rw [if_neg h2]
      by_cases h3 : k = 9218868437227405312
      · rw [if_pos h3]
        subst h3
        exact Or.inr (Or.inl ⟨s, rfl, hx2⟩)
      · rw [if_neg h3]
        exact Or.inl rfl

/-- A great number, all of it whole, is written as it was. -/
theorem nearest_great (s : Bool) (m e : Nat) (he : e ≤ 971) (h0 : 4503599627370496 ≤ m) (h1 : m < 9007199254740992) : Ieee.double.nearest s (m <<< e) 0 = Ieee.double.word s ((1074 + e) * 4503599627370496 + m) := by
  have hp : 0 < 2 ^ e := Nat.two_pow_pos e
  rw [Nat.shiftLeft_eq]
  have hl : (m * 2 ^ e).log2 = 52 + e := by
    refine log2_eq ?_ ?_
    · rw [Nat.pow_add]
      exact Nat.mul_le_mul_right _ h0
    · rw [Nat.add_right_comm, Nat.pow_add]
      exact Nat.mul_lt_mul_of_pos_right h1 hp
  have hne : m * 2 ^ e ≠ 0 := Nat.mul_ne_zero (by omega) (by omega)
  unfold Ieee.Format.nearest
  rw [if_neg hne, hl]
  simp only [e_frac, e_least, e_bin, e_inf, cut_even]
  have a1 : max ((0 : Int) + ((52 + e : Nat) : Int) - (52 : Nat)) (-1074) = (e : Int) := by omega
  have a2 : ((0 : Int) - (e : Int)).toNat = 0 := by omega
  have a3 : ((e : Int) - 0).toNat = e := by omega
  have a4 : rne (m * 2 ^ e) e = m := by
    unfold rne
    rw [Nat.mul_mod_left, Nat.mul_div_cancel _ hp]
    have b2 : (2 ^ e == 2 * 0) = false := by simp
    simp [b2]
  rw [a1, a2, a3, Nat.shiftLeft_zero, a4]
  congr 1
  omega
end Go.Proofs.YtddbekacdfohpaaGreatDoor

namespace Go.Proofs.YtddbekacdfohpaaGreatDoor

theorem log2_scale (n j : Nat) (h : n ≠ 0) : (n * 2 ^ j).log2 = n.log2 + j := by
  refine log2_eq ?_ ?_
  · rw [Nat.pow_add]
    exact Nat.mul_le_mul_right _ (Nat.log2_self_le h)
  · rw [Nat.add_right_comm, Nat.pow_add]
    exact Nat.mul_lt_mul_of_pos_right Nat.lt_log2_self (Nat.two_pow_pos j)

theorem rne_scale (n d j : Nat) : rne (n * 2 ^ j) (d + j) = rne n d := by
  have hp : 0 < 2 ^ j := Nat.two_pow_pos j
  unfold rne
  rw [Nat.pow_add, Nat.mul_div_mul_right _ _ hp, Nat.mul_mod_mul_right]
  have e1 : decide (2 ^ d * 2 ^ j < 2 * (n % 2 ^ d * 2 ^ j)) = decide (2 ^ d < 2 * (n % 2 ^ d)) := by
    rw [← Nat.mul_assoc]
    exact decide_eq_decide.2 ⟨fun h => Nat.lt_of_mul_lt_mul_right h, fun h => Nat.mul_lt_mul_of_pos_right h hp⟩
  have e2 : (2 ^ d * 2 ^ j == 2 * (n % 2 ^ d * 2 ^ j)) = (2 ^ d == 2 * (n % 2 ^ d)) := by
    rw [← Nat.mul_assoc, Bool.eq_iff_iff, beq_iff_eq, beq_iff_eq]
    exact ⟨fun h => Nat.eq_of_mul_eq_mul_right hp h, fun h => congrArg (· * 2 ^ j) h⟩
  rw [e1, e2]

theorem rne_zero (n : Nat) : rne n 0 = n := by unfold rne; simp [Nat.mod_one]

/-- What is written hangs on the number alone. -/
theorem nearest_scale (s : Bool) (m j : Nat) (p : Int) : Ieee.double.nearest s (m * 2 ^ j) (p - j) = Ieee.double.nearest s m p := by
  by_cases h : m = 0
  · subst h; simp [Ieee.Format.nearest]
  · have hp : 0 < 2 ^ j := Nat.two_pow_pos j
    have hne : m * 2 ^ j ≠ 0 := Nat.mul_ne_zero h (by omega)
    unfold Ieee.Format.nearest
    rw [if_neg h, if_neg hne, log2_scale m j h]
    simp only [e_frac, e_least, e_bin, e_inf, cut_even]
    have a1 : max (p - (j : Int) + ((m.log2 + j : Nat) : Int) - (52 : Nat)) (-1074) = max (p + (m.log2 : Int) - (52 : Nat)) (-1074) := by omega
    rw [a1]
    generalize max (p + (m.log2 : Int) - (52 : Nat)) (-1074) = last
    have key : rne ((m * 2 ^ j) <<< (p - (j : Int) - last).toNat) (last - (p - (j : Int))).toNat = rne (m <<< (p - last).toNat) (last - p).toNat := by
      by_cases c : last ≤ p - j
      · have b1 : (last - (p - (j : Int))).toNat = 0 := by omega
        have b2 : (last - p).toNat = 0 := by omega
        have b3 : (p - last).toNat = j + (p - (j : Int) - last).toNat := by omega
        rw [b1, b2, b3, rne_zero, rne_zero, Nat.shiftLeft_eq, Nat.shiftLeft_eq, Nat.pow_add, Nat.mul_assoc]
      · have b1 : (p - (j : Int) - last).toNat = 0 := by omega
        rw [b1, Nat.shiftLeft_zero]
        by_cases c2 : last ≤ p
        · have b2 : (last - p).toNat = 0 := by omega
          have b3 : j = (p - last).toNat + (last - (p - (j : Int))).toNat := by omega
          rw [b2, rne_zero, Nat.shiftLeft_eq]
          generalize (p - last).toNat = u at *
          generalize (last - (p - (j : Int))).toNat = v at *
          subst b3
          rw [Nat.pow_add, ← Nat.mul_assoc]
          have := rne_scale (m * 2 ^ u) 0 v
          rw [Nat.zero_add, rne_zero] at this
          exact this
        · have b2 : (p - last).toNat = 0 := by omega
          have b3 : (last - (p - (j : Int))).toNat = (last - p).toNat + j := by omega
          rw [b2, Nat.shiftLeft_zero, b3, rne_scale]
    rw [key]

theorem sign_mod (s : Bool) {x : Nat} (h : x < 9223372036854775808) : (if s = true then 9223372036854775808 + x else x) % 9223372036854775808 = x := by
  cases s
  · rw [if_neg (by decide)]; omega
  · rw [if_pos rfl]; omega

theorem sign_div (s : Bool) {x : Nat} (h : x < 9223372036854775808) : ((if s = true then 9223372036854775808 + x else x) / 9223372036854775808 % 2 == 1) = s := by
  cases s
  · rw [if_neg (by decide), Nat.div_eq_of_lt h]; rfl
  · rw [if_pos rfl, show (9223372036854775808 + x) / 9223372036854775808 = 1 by omega]; rfl

/-- What a sign and a finite rung stand for. -/
theorem read_rung (s : Bool) (q k : Nat) (h0 : 4503599627370496 ≤ k) (h1 : k < 9007199254740992) (hq : q ≤ 2045) : Ieee.double.read (Ieee.double.word s (q * 4503599627370496 + k)) = .number s k (-1074 + q) := by
  have hx : q * 4503599627370496 + k < 9223372036854775808 := by omega
  unfold Ieee.Format.read Ieee.Format.word
  simp only [e_sign, e_bin, e_inf, e_least]
  rw [sign_mod s hx, sign_div s hx, if_neg (by omega), if_pos (by omega)]
  have c1 : 4503599627370496 + (q * 4503599627370496 + k) % 4503599627370496 = k := by omega
  have c2 : (q * 4503599627370496 + k) / 4503599627370496 - 1 = q := by omega
  rw [c1, c2]

theorem read_low (s : Bool) (k : Nat) (h1 : k < 4503599627370496) : Ieee.double.read (Ieee.double.word s k) = .number s k (-1074) := by
  have hx : k < 9223372036854775808 := by omega
  unfold Ieee.Format.read Ieee.Format.word
  simp only [e_sign, e_bin, e_inf, e_least]
  rw [sign_mod s hx, sign_div s hx, if_pos h1]

theorem min_rung (q k : Nat) (hq : q ≤ 2045) (hk : k < 9007199254740992) : min (q * 4503599627370496 + k) 9218868437227405312 = q * 4503599627370496 + k := by
  apply Nat.min_eq_left
  omega

/-- A number that the format has, read from its word. -/
theorem read_nearest (s : Bool) (m : Nat) (p : Int) (h0 : m ≠ 0) (h1 : m < 9007199254740992) (h2 : -1074 ≤ p) (h3 : p + m.log2 ≤ 1023) :
    ∃ j : Nat, j ≤ 52 ∧ m * 2 ^ j < 9007199254740992 ∧ Ieee.double.read (Ieee.double.nearest s m p) = .number s (m * 2 ^ j) (p - j) := by
  have hL : m.log2 ≤ 52 := by
    have := (Nat.log2_lt h0).2 (show m < 2 ^ 53 by omega)
    omega
  have hb0 := Nat.log2_self_le h0
  have hb1 : m < 2 ^ (m.log2 + 1) := Nat.lt_log2_self
  unfold Ieee.Format.nearest
  rw [if_neg h0]
  simp only [e_frac, e_least, e_bin, e_inf, cut_even]
  generalize hl : m.log2 = L at *
  by_cases c : -1074 < p + (L : Int) - 52
  · have a1 : max (p + (L : Int) - (52 : Nat)) (-1074) = p + L - 52 := by omega
    rw [a1]
    have a2 : (p - (p + (L : Int) - 52)).toNat = 52 - L := by omega
    have a3 : (p + (L : Int) - 52 - p).toNat = 0 := by omega
    have a4 : (p + (L : Int) - 52 - -1074).toNat = (p + L + 1022).toNat := by omega
    rw [a2, a3, a4, rne_zero, Nat.shiftLeft_eq]
    have k0 : 4503599627370496 ≤ m * 2 ^ (52 - L) := by
      have : 2 ^ L * 2 ^ (52 - L) = 4503599627370496 := by rw [← Nat.pow_add, show L + (52 - L) = 52 by omega]
      rw [← this]
      exact Nat.mul_le_mul_right _ hb0
    have k1 : m * 2 ^ (52 - L) < 9007199254740992 := by
      have : 2 ^ (L + 1) * 2 ^ (52 - L) = 9007199254740992 := by rw [← Nat.pow_add, show L + 1 + (52 - L) = 53 by omega]
      rw [← this]
      exact Nat.mul_lt_mul_of_pos_right hb1 (Nat.two_pow_pos _)
    refine ⟨52 - L, by omega, k1, ?_⟩
    obtain ⟨q, hq1, hq2⟩ : ∃ q : Nat, (p + L + 1022).toNat = q ∧ (q : Int) = p + L + 1022 := ⟨(p + L + 1022).toNat, rfl, by omega⟩
    have hq3 : q ≤ 2045 := by omega
    have e1 : (-1074 : Int) + q = p - ((52 - L : Nat) : Int) := by omega
    rw [hq1, min_rung q _ hq3 k1, read_rung s q _ k0 k1 hq3, e1]
  · have a1 : max (p + (L : Int) - (52 : Nat)) (-1074) = -1074 := by omega
    rw [a1]
    obtain ⟨j, hj⟩ : ∃ j : Nat, (p - -1074).toNat = j ∧ (j : Int) = p + 1074 := ⟨(p - -1074).toNat, rfl, by omega⟩
    have a3 : ((-1074 : Int) - p).toNat = 0 := by omega
    rw [hj.1, a3, rne_zero, Nat.shiftLeft_eq]
    have k1 : m * 2 ^ j < 9007199254740992 := by
      have h5 : 2 ^ (L + 1) * 2 ^ j ≤ 2 ^ 53 := by rw [← Nat.pow_add]; exact Nat.pow_le_pow_right (by decide) (by omega)
      have h6 : m * 2 ^ j < 2 ^ (L + 1) * 2 ^ j := Nat.mul_lt_mul_of_pos_right hb1 (Nat.two_pow_pos _)
      omega
    refine ⟨j, by omega, k1, ?_⟩
    generalize m * 2 ^ j = k at *
    have a4 : ((-1074 : Int) - -1074).toNat = 0 := by omega
    have a5 := min_rung 0 k (by omega) k1
    rw [Nat.zero_mul, Nat.zero_add] at a5
    rw [a4, Nat.zero_mul, Nat.zero_add, a5]
    by_cases c2 : k < 4503599627370496
    · rw [read_low s k c2]
      congr 1
      omega
    · have := read_rung s 0 k (by omega) k1 (by omega)
      rw [Nat.zero_mul, Nat.zero_add] at this
      rw [this]
      congr 1
      omega

theorem read_two : Ieee.double.read 4611686018427387904 = .number false 4503599627370496 (-51) := by decide +kernel

/-- Doubled. -/
theorem twice (s : Bool) (m : Nat) (p : Int) (h0 : m ≠ 0) (h1 : m < 9007199254740992) (h2 : -1074 ≤ p) (h3 : p + m.log2 ≤ 1023) :
    floatBits .mul .f64 (Ieee.double.nearest s m p) 4611686018427387904 = some (Ieee.double.nearest s m (p + 1)) := by
  obtain ⟨j, _, _, hr⟩ := read_nearest s m p h0 h1 h2 h3
  show ((Ieee.double.read (Ieee.double.nearest s m p)).product (Ieee.double.read 4611686018427387904)).map Ieee.double.write = _
  rw [hr, read_two]
  simp only [Ieee.Datum.product, Option.map_some, Ieee.Format.write, Bool.xor_false]
  rw [← nearest_scale s m (j + 52) (p + 1), Nat.pow_add, ← Nat.mul_assoc]
  congr 2
  omega

/-- Halved. -/
theorem half (s : Bool) (m : Nat) (p : Int) (h0 : m ≠ 0) (h1 : m < 9007199254740992) (h2 : -1074 ≤ p) (h3 : p + m.log2 ≤ 1023) :
    floatBits .quo .f64 (Ieee.double.nearest s m p) 4611686018427387904 = some (Ieee.double.nearest s m (p - 1)) := by
  obtain ⟨j, _, hk, hr⟩ := read_nearest s m p h0 h1 h2 h3
  show ((Ieee.double.read (Ieee.double.nearest s m p)).quotient 54 (Ieee.double.read 4611686018427387904)).map Ieee.double.write = _
  rw [hr, read_two]
  have hk0 : m * 2 ^ j ≠ 0 := Nat.mul_ne_zero h0 (by have := Nat.two_pow_pos j; omega)
  have hL : (m * 2 ^ j).log2 ≤ 52 := by
    have := (Nat.log2_lt hk0).2 (show m * 2 ^ j < 2 ^ 53 by omega)
    omega
  simp only [Ieee.Datum.quotient, Bool.xor_false]
  rw [if_neg (by decide)]
  simp only [Option.map_some]
  have l52 : Nat.log2 4503599627370496 = 52 := by decide +kernel
  rw [l52]
  obtain ⟨u, hu⟩ : ∃ u, 54 + 52 - (m * 2 ^ j).log2 = 52 + u := ⟨54 - (m * 2 ^ j).log2, by omega⟩
  rw [hu, Nat.shiftLeft_eq]
  have e1 : m * 2 ^ j * 2 ^ (52 + u) = m * 2 ^ j * 2 ^ u * 4503599627370496 := by
    rw [Nat.add_comm, Nat.pow_add, ← Nat.mul_assoc]
  rw [e1, Nat.mul_div_cancel _ (by decide), Nat.mul_mod_left]
  have e2 : 2 * (m * 2 ^ j * 2 ^ u) + ((0 : Nat) != 0).toNat = m * 2 ^ (j + u + 1) := by
    rw [Nat.pow_add, Nat.pow_add, Nat.pow_one]
    show 2 * (m * 2 ^ j * 2 ^ u) + 0 = _
    rw [Nat.add_zero]
    ac_rfl
  have e3 : p - (j : Int) - -51 - ((52 + u : Nat) : Int) - 1 = p - 1 - ((j + u + 1 : Nat) : Int) := by omega
  rw [e2, e3]
  exact congrArg some (nearest_scale s m (j + u + 1) (p - 1))

/-- A word is what is written of what it stands for. -/
theorem write_read {x : Nat} (hx : x < 18446744073709551616) {s : Bool} {m : Nat} {p : Int} (h : Ieee.double.read x = .number s m p) : Ieee.double.nearest s m p = x := by
  rcases read_cases x hx with h1 | ⟨s1, h1, _⟩ | ⟨s1, h1, hw⟩ | ⟨s1, m1, d, hd, hd1, h0, h2, h3, h1, hw⟩ | ⟨s1, m1, e, he, h0, h2, h1, hw⟩
  · rw [h] at h1; cases h1
  · rw [h] at h1; cases h1
  · rw [h] at h1
    cases h1
    rw [hw]; rfl
  · rw [h] at h1
    cases h1
    rw [hw]
    unfold Ieee.Format.nearest
    rw [if_neg (by omega)]
    simp only [e_frac, e_least, e_bin, e_inf, cut_even]
    have hL : m.log2 ≤ 52 := by
      have := (Nat.log2_lt (show m ≠ 0 by omega)).2 (show m < 2 ^ 53 by omega)
      omega
    have a1 : max (-(d : Int) + (m.log2 : Int) - (52 : Nat)) (-1074) = -(d : Int) := by
      rcases h3 with h3 | h3
      · have : m.log2 = 52 := log2_eq (by omega) (by omega)
        omega
      · omega
    have a2 : (-(d : Int) - -(d : Int)).toNat = 0 := by omega
    have a3 : (-(d : Int) - -1074).toNat = 1074 - d := by omega
    rw [a1, a2, a3, Nat.shiftLeft_zero, rne_zero]
    congr 1
    omega
  · rw [h] at h1
    cases h1
    rw [hw, ← nearest_great s m e he h0 h2, Nat.shiftLeft_eq]
    have := nearest_scale s m e (e : Int)
    rw [Int.sub_self] at this
    exact this.symm
end Go.Proofs.YtddbekacdfohpaaGreatDoor

namespace Go.Proofs.YtddbekacdfohpaaGreatDoor
open Go.RowKit

/-- A magnitude with its sign. -/
def sg (s : Bool) (m : Nat) : Int := if s then -(m : Int) else m

/-- The bits stand for the whole number x. -/
def V (b : Nat) (x : Int) : Prop := ∃ s, b = Ieee.double.nearest s x.natAbs 0 ∧ sg s x.natAbs = x

theorem read_zero (s : Bool) : Ieee.double.read (Ieee.double.nearest s 0 0) = .number s 0 (-1074) := by
  cases s <;> decide +kernel

theorem V.read {b : Nat} {x : Int} (h : V b x) (hx : x.natAbs < 9007199254740992) : ∃ (s : Bool) (j : Nat), Ieee.double.read b = .number s (x.natAbs * 2 ^ j) (-(j : Int)) ∧ sg s x.natAbs = x := by
  obtain ⟨s, rfl, hs⟩ := h
  by_cases h0 : x.natAbs = 0
  · obtain ⟨q, hq⟩ : ∃ q : Nat, q = 1074 := ⟨_, rfl⟩
    refine ⟨s, q, ?_, hs⟩
    rw [h0, Nat.zero_mul, read_zero s, hq]
    rfl
  · obtain ⟨j, _, _, hr⟩ := read_nearest s x.natAbs 0 h0 hx (by omega) (by
      have := (Nat.log2_lt h0).2 (show x.natAbs < 2 ^ 53 by omega)
      omega)
    exact ⟨s, j, by rw [hr]; simp, hs⟩

theorem signed_scale (s : Bool) (m i k : Nat) (h : i ≤ k) : Ieee.signed s (m * 2 ^ i) (-(i : Int) - -(k : Int)).toNat = sg s m * 2 ^ k := by
  have e : (-(i : Int) - -(k : Int)).toNat = k - i := by omega
  have e2 : (m * 2 ^ i) <<< (k - i) = m * 2 ^ k := by
    rw [Nat.shiftLeft_eq, Nat.mul_assoc, ← Nat.pow_add]
    congr 2
    omega
  unfold Ieee.signed sg
  rw [e, e2]
  cases s <;> simp [Int.neg_mul]

theorem sg_abs (z : Int) (k : Nat) : (z * 2 ^ k).natAbs = z.natAbs * 2 ^ k := by
  rw [Int.natAbs_mul, Int.natAbs_pow]
  rfl

theorem lt_pow (z : Int) (k : Nat) : (z * 2 ^ k < 0) ↔ z < 0 := by
  have : (0 : Int) < 2 ^ k := Int.pow_pos (by decide)
  constructor
  · intro h
    by_cases hz : z < 0
    · exact hz
    · have := Int.mul_nonneg (show 0 ≤ z by omega) (Int.le_of_lt this)
      omega
  · intro h
    exact Int.mul_neg_of_neg_of_pos h this

theorem eq_pow (z : Int) (k : Nat) : (z * 2 ^ k = 0) ↔ z = 0 := by
  have : (0 : Int) < 2 ^ k := Int.pow_pos (by decide)
  constructor
  · intro h
    rcases Int.mul_eq_zero.1 h with h | h
    · exact h
    · omega
  · rintro rfl; simp

theorem V_of_total {z : Int} {k : Nat} {s : Bool} (hs : z ≠ 0 → s = decide (z < 0)) : V (Ieee.double.write (.number s (z * 2 ^ k).natAbs (-(k : Int)))) z := by
  refine ⟨s, ?_, ?_⟩
  · show Ieee.double.nearest s _ _ = _
    have := nearest_scale s z.natAbs k 0
    rw [sg_abs, ← this]
    simp
  · by_cases h : z = 0
    · subst h; simp [sg]
    · rw [hs h]
      unfold sg
      by_cases hz : z < 0
      · simp [hz]; omega
      · simp [hz]; omega

theorem V_add {a b : Nat} {x y : Int} (ha : V a x) (hb : V b y) (hx : x.natAbs < 9007199254740992) (hy : y.natAbs < 9007199254740992) : ∃ r, floatBits .add .f64 a b = some r ∧ V r (x + y) := by
  obtain ⟨s, i, hr, hs⟩ := ha.read hx
  obtain ⟨t, j, hr', ht⟩ := hb.read hy
  show ∃ r, ((Ieee.double.read a).sum (Ieee.double.read b)).map Ieee.double.write = some r ∧ _
  rw [hr, hr']
  simp only [Ieee.Datum.sum, Option.map_some]
  have hm : min (-(i : Int)) (-(j : Int)) = -((max i j : Nat) : Int) := by omega
  rw [hm, signed_scale s _ i _ (Nat.le_max_left _ _), signed_scale t _ j _ (Nat.le_max_right _ _), hs, ht, ← Int.add_mul]
  refine ⟨_, rfl, V_of_total fun h => ?_⟩
  rw [if_neg (fun e => h ((eq_pow _ _).1 e))]
  exact decide_eq_decide.2 (lt_pow _ _)

theorem sg_not (s : Bool) (m : Nat) : sg (!s) m = - sg s m := by cases s <;> simp [sg]

theorem V_sub {a b : Nat} {x y : Int} (ha : V a x) (hb : V b y) (hx : x.natAbs < 9007199254740992) (hy : y.natAbs < 9007199254740992) : ∃ r, floatBits .sub .f64 a b = some r ∧ V r (x - y) := by
  obtain ⟨s, i, hr, hs⟩ := ha.read hx
  obtain ⟨t, j, hr', ht⟩ := hb.read hy
  show ∃ r, ((Ieee.double.read a).sum (Ieee.double.read b).opposite).map Ieee.double.write = some r ∧ _
  rw [hr, hr']
  simp only [Ieee.Datum.opposite, Ieee.Datum.sum, Option.map_some]
  have hm : min (-(i : Int)) (-(j : Int)) = -((max i j : Nat) : Int) := by omega
  rw [hm, signed_scale s _ i _ (Nat.le_max_left _ _), signed_scale (!t) _ j _ (Nat.le_max_right _ _), sg_not, hs, ht, ← Int.add_mul, ← Int.sub_eq_add_neg]
  refine ⟨_, rfl, V_of_total fun h => ?_⟩
  rw [if_neg (fun e => h ((eq_pow _ _).1 e))]
  exact decide_eq_decide.2 (lt_pow _ _)

theorem sg_mul (s t : Bool) (m n : Nat) : sg (s ^^ t) (m * n) = sg s m * sg t n := by
  cases s <;> cases t <;> simp [sg, Int.neg_mul, Int.mul_neg]

theorem V_mul {a b : Nat} {x y : Int} (ha : V a x) (hb : V b y) (hx : x.natAbs < 9007199254740992) (hy : y.natAbs < 9007199254740992) : ∃ r, floatBits .mul .f64 a b = some r ∧ V r (x * y) := by
  obtain ⟨s, i, hr, hs⟩ := ha.read hx
  obtain ⟨t, j, hr', ht⟩ := hb.read hy
  show ∃ r, ((Ieee.double.read a).product (Ieee.double.read b)).map Ieee.double.write = some r ∧ _
  rw [hr, hr']
  simp only [Ieee.Datum.product, Option.map_some]
  refine ⟨_, rfl, s ^^ t, ?_, ?_⟩
  · show Ieee.double.nearest _ _ _ = _
    have := nearest_scale (s ^^ t) (x * y).natAbs (i + j) 0
    rw [← this, Int.natAbs_mul]
    congr 1
    · rw [Nat.pow_add]
      simp only [Nat.mul_assoc, Nat.mul_left_comm]
    · omega
  · rw [Int.natAbs_mul, sg_mul, hs, ht]

theorem cmp_pow (x y : Int) (k : Nat) : (compare (x * 2 ^ k) (y * 2 ^ k) == Ordering.eq) = decide (x = y) := by
  have h : (0 : Int) < 2 ^ k := Int.pow_pos (by decide)
  by_cases e : x = y
  · subst e; simp
  · have : x * 2 ^ k ≠ y * 2 ^ k := fun h' => e (Int.eq_of_mul_eq_mul_right (by omega) h')
    simp [e, this]

/-- Two that stand for whole numbers are equal just when these are. -/
theorem V_eq {a b : Nat} {x y : Int} (ha : V a x) (hb : V b y) (hx : x.natAbs < 9007199254740992) (hy : y.natAbs < 9007199254740992) : (FloatKind.f64.format.order a b == some .eq) = decide (x = y) := by
  obtain ⟨s, i, hr, hs⟩ := ha.read hx
  obtain ⟨t, j, hr', ht⟩ := hb.read hy
  show ((Ieee.double.read a).order (Ieee.double.read b) == some .eq) = _
  rw [hr, hr']
  simp only [Ieee.Datum.order]
  have hm : min (-(i : Int)) (-(j : Int)) = -((max i j : Nat) : Int) := by omega
  rw [hm, signed_scale s _ i _ (Nat.le_max_left _ _), signed_scale t _ j _ (Nat.le_max_right _ _), hs, ht, ← cmp_pow x y (max i j)]
  rfl

theorem V_not_nan {b : Nat} {x : Int} (h : V b x) (hx : x.natAbs < 9007199254740992) : cn b = some b := by
  obtain ⟨s, j, hr, _⟩ := h.read hx
  exact cn_some (by rw [hr]; rfl)

/-- What stands for a whole number, of what bits stand for. -/
def Vc (o : Option Nat) (x : Int) : Prop := ∃ b, o = some b ∧ V b x ∧ x.natAbs < 9007199254740992

theorem Vc.of_cn {b : Nat} {x : Int} (h : Vc (cn b) x) : V b x ∧ x.natAbs < 9007199254740992 := by
  obtain ⟨c, hc, hv, hx⟩ := h
  unfold cn at hc
  split at hc
  · cases hc
  · cases hc; exact ⟨hv, hx⟩

theorem Vc.cn {b : Nat} {x : Int} (h : V b x) (hx : x.natAbs < 9007199254740992) : Vc (cn b) x := ⟨b, V_not_nan h hx, h, hx⟩

theorem Vc.add {o p : Option Nat} {x y : Int} (ho : Vc o x) (hp : Vc p y) (h : (x + y).natAbs < 9007199254740992) : Vc (cop .add o p) (x + y) := by
  obtain ⟨a, rfl, ha, hx⟩ := ho
  obtain ⟨b, rfl, hb, hy⟩ := hp
  obtain ⟨r, hr, hv⟩ := V_add ha hb hx hy
  exact ⟨r, by simpa [cop] using hr, hv, h⟩

theorem Vc.sub {o p : Option Nat} {x y : Int} (ho : Vc o x) (hp : Vc p y) (h : (x - y).natAbs < 9007199254740992) : Vc (cop .sub o p) (x - y) := by
  obtain ⟨a, rfl, ha, hx⟩ := ho
  obtain ⟨b, rfl, hb, hy⟩ := hp
  obtain ⟨r, hr, hv⟩ := V_sub ha hb hx hy
  exact ⟨r, by simpa [cop] using hr, hv, h⟩

theorem Vc.mul {o p : Option Nat} {x y : Int} (ho : Vc o x) (hp : Vc p y) (h : (x * y).natAbs < 9007199254740992) : Vc (cop .mul o p) (x * y) := by
  obtain ⟨a, rfl, ha, hx⟩ := ho
  obtain ⟨b, rfl, hb, hy⟩ := hp
  obtain ⟨r, hr, hv⟩ := V_mul ha hb hx hy
  exact ⟨r, by simpa [cop] using hr, hv, h⟩
end Go.Proofs.YtddbekacdfohpaaGreatDoor

namespace Go.Proofs.YtddbekacdfohpaaGreatDoor
open Go.RowKit

/-- What is known of the bytes that came in: each element's cell. -/
def Row (w : World) (a : Option Addr) (n : Nat) : Prop := ∀ i, i < n → ∃ b off z, a = some ⟨b, off, none⟩ ∧ b < w.heap.size ∧ w.cell? ⟨b, off + i, none⟩ = some (.int .u8 z) ∧ 0 ≤ z ∧ z < 256

theorem Row.below {w w' : World} {a : Option Addr} {n : Nat} (h : Row w a n) (hb : Below w.heap.size w w') : Row w' a n := by
  intro i hi
  obtain ⟨b, off, z, rfl, hlt, hc, h0, h1⟩ := h i hi
  exact ⟨b, off, z, rfl, Nat.lt_of_lt_of_le hlt hb.size, (hb.cell (p := ⟨b, off + i, none⟩) hlt).trans hc, h0, h1⟩

set_option maxHeartbeats 1000000 in
theorem big_any {w : World} (a : Option Addr) (n cap : Nat) (_ : n ≤ 9223372036854775807) : Calls Tryz.prog 4 #[.slice a n cap] w fun e w' => e = .returned (.bool (decide (1048576 < (n : Int)))) ∧ w' = w := by
  go_enter Tryz.func4, Tryz.ntmps4
  go_wp2
  go_ret
  exact ⟨rfl, rfl⟩

end Go.Proofs.YtddbekacdfohpaaGreatDoor
