/- QG0 QF1 QH5. -/
import Derived.Laws.FloatArith
import Derived.Test.YtddbekacdfohpaaGreatDoorRows
import Derived.WalkKit
import Derived.WalkSpells
import Derived.WalkLawsBesides
import Derived.Deep.QuietTactic
import Derived.BigQuiet
namespace Go.Proofs.YtddbekacdfohpaaGreatDoor.Q

section
/-- n by 2 ^ d to the nearest whole number, of two as near the even one. -/
def rne (n d : Nat) : Nat := n / 2 ^ d + (decide (2 ^ d < 2 * (n % 2 ^ d)) || (2 ^ d == 2 * (n % 2 ^ d) && n / 2 ^ d % 2 == 1)).toNat

theorem cut_even (neg : Bool) (n d : Nat) : Ieee.Toward.even.cut neg n d = rne n d := by
  unfold Ieee.Toward.cut rne
  simp only [Nat.one_shiftLeft]
  by_cases h : d ≤ n.log2 + 2
  · rw [Nat.min_eq_left h]
  · rw [Nat.min_eq_right (by omega)]
    have h1 : n < 2 ^ (n.log2 + 1) := Nat.lt_log2_self
    have h2 : 2 ^ (n.log2 + 2) = 2 * 2 ^ (n.log2 + 1) := by rw [Nat.pow_succ]; omega
    have h3 : 2 ^ (n.log2 + 2) ≤ 2 ^ d := Nat.pow_le_pow_right (by decide) (by omega)
    generalize 2 ^ (n.log2 + 1) = a at *
    generalize 2 ^ (n.log2 + 2) = b at *
    generalize 2 ^ d = c at *
    rw [Nat.div_eq_of_lt (show n < b by omega), Nat.div_eq_of_lt (show n < c by omega), Nat.mod_eq_of_lt (show n < b by omega), Nat.mod_eq_of_lt (show n < c by omega)]
    have e1 : decide (b < 2 * n) = false := by simp; omega
    have e2 : decide (c < 2 * n) = false := by simp; omega
    have e3 : (b == 2 * n) = false := by simp; omega
    have e4 : (c == 2 * n) = false := by simp; omega
    rw [e1, e2, e3, e4]

theorem rne_add (m d q : Nat) (hq : q % 2 = 0) : rne (m + q * 2 ^ d) d = q + rne m d := by
  have hp : 0 < 2 ^ d := Nat.two_pow_pos d
  unfold rne
  rw [Nat.add_mul_mod_self_right, Nat.add_mul_div_right _ _ hp]
  have e : (m / 2 ^ d + q) % 2 = m / 2 ^ d % 2 := by omega
  rw [e]
  omega

theorem rne_le (m d b : Nat) (h : m ≤ b * 2 ^ d) : rne m d ≤ b := by
  have hp : 0 < 2 ^ d := Nat.two_pow_pos d
  unfold rne
  by_cases h1 : m / 2 ^ d < b
  · have : (decide (2 ^ d < 2 * (m % 2 ^ d)) || (2 ^ d == 2 * (m % 2 ^ d) && m / 2 ^ d % 2 == 1)).toNat ≤ 1 := Bool.toNat_le _
    omega
  · have h2 : m / 2 ^ d ≤ b := by
      rw [Nat.div_le_iff_le_mul_add_pred hp, Nat.mul_comm]; omega
    have h3 : m / 2 ^ d = b := by omega
    have h4 := Nat.div_add_mod m (2 ^ d)
    have h5 : m % 2 ^ d = 0 := by rw [h3, Nat.mul_comm] at h4; omega
    rw [h5, h3]
    have e2 : (2 ^ d == 2 * 0) = false := by simp
    simp [e2]

theorem log2_eq {n k : Nat} (h0 : 2 ^ k ≤ n) (h1 : n < 2 ^ (k + 1)) : n.log2 = k := by
  have hn : n ≠ 0 := by have := Nat.two_pow_pos k; omega
  have a : k ≤ n.log2 := (Nat.le_log2 hn).2 h0
  have b : n.log2 < k + 1 := (Nat.log2_lt hn).2 h1
  omega

theorem e_sign : Ieee.double.signWeight = 9223372036854775808 := by decide
theorem e_inf : Ieee.double.infRung = 9218868437227405312 := by decide
theorem e_bin : Ieee.double.binade = 4503599627370496 := by decide
theorem e_least : Ieee.double.leastPlace = -1074 := by decide
theorem e_frac : Ieee.double.fractionBits = 52 := by decide
end

section
theorem read_c : Ieee.double.read 4841369599423283200 = .number false 4503599627370496 0 := by decide +kernel
theorem read_cn : Ieee.double.read 14064741636278059008 = .number true 4503599627370496 0 := by decide +kernel

theorem nearest_big (neg : Bool) (m d : Nat) (hd : d ≤ 1074) (hm : m < 4503599627370496 * 2 ^ d) :
    Ieee.double.nearest neg (m + 4503599627370496 * 2 ^ d) (-(d : Int)) = Ieee.double.word neg (4841369599423283200 + rne m d) := by
  have hp : 0 < 2 ^ d := Nat.two_pow_pos d
  have hl : (m + 4503599627370496 * 2 ^ d).log2 = 52 + d := log2_eq (by rw [Nat.pow_add]; omega) (by rw [Nat.add_right_comm, Nat.pow_add]; omega)
  have hq := rne_le m d 4503599627370496 (by omega)
  unfold Ieee.Format.nearest
  rw [if_neg (by omega), hl]
  simp only [e_frac, e_least, e_bin, e_inf, cut_even]
  have e1 : max (-(d : Int) + ((52 + d : Nat) : Int) - (52 : Nat)) (-1074) = 0 := by omega
  have e2 : (-(d : Int) - 0).toNat = 0 := by omega
  have e3 : ((0 : Int) - -(d : Int)).toNat = d := by omega
  rw [e1, e2, e3, Nat.shiftLeft_zero, rne_add m d _ (by decide)]
  congr 1
  omega

theorem read_big (q : Nat) (h : q ≤ 4503599627370496) : Ieee.double.read (4841369599423283200 + q) = .number false (4503599627370496 + q) 0 ∨ (q = 4503599627370496 ∧ Ieee.double.read (4841369599423283200 + q) = .number false 4503599627370496 1) := by
  by_cases h1 : q = 4503599627370496
  · subst h1
    exact Or.inr ⟨rfl, by decide +kernel⟩
  · left
    unfold Ieee.Format.read
    simp only [e_sign, e_bin, e_inf, e_least]
    have a1 : (4841369599423283200 + q) / 9223372036854775808 = 0 := by omega
    have a2 : (4841369599423283200 + q) % 9223372036854775808 = 4841369599423283200 + q := by omega
    have a3 : (4841369599423283200 + q) % 4503599627370496 = q := by omega
    have a4 : (4841369599423283200 + q) / 4503599627370496 = 1075 := by omega
    rw [a1, a2, if_neg (by omega), if_pos (by omega), a3, a4]
    rfl

theorem whole_back (q : Nat) (h : q ≤ 4503599627370496) : floatBits .sub .f64 (4841369599423283200 + q) 4841369599423283200 = some (Ieee.double.nearest false q 0) := by
  show ((Ieee.double.read (4841369599423283200 + q)).sum (Ieee.double.read 4841369599423283200).opposite).map Ieee.double.write = _
  rw [read_c]
  rcases read_big q h with e | ⟨rfl, e⟩
  · rw [e]
    have t : Ieee.signed false (4503599627370496 + q) ((0 : Int) - min 0 0).toNat + Ieee.signed true 4503599627370496 ((0 : Int) - min 0 0).toNat = (q : Int) := by
      simp [Ieee.signed]; omega
    simp only [Ieee.Datum.opposite, Ieee.Datum.sum, Option.map_some, Bool.not_false]
    rw [t]
    by_cases h0 : q = 0
    · subst h0; rfl
    · have n1 : ¬ (q : Int) = 0 := by omega
      have n2 : decide ((q : Int) < 0) = false := by simp
      rw [if_neg n1, n2]
      rfl
  · rw [e]
    rfl

theorem plus_c {x m d : Nat} (hx : Ieee.double.read x = .number false m (-(d : Int))) (hd : d ≤ 1074) (hm : m < 4503599627370496 * 2 ^ d) :
    floatBits .add .f64 x 4841369599423283200 = some (4841369599423283200 + rne m d) := by
  show ((Ieee.double.read x).sum (Ieee.double.read 4841369599423283200)).map Ieee.double.write = _
  rw [hx, read_c]
  have hp : 0 < 2 ^ d := Nat.two_pow_pos d
  have b : min (-(d : Int)) 0 = -(d : Int) := by omega
  have t : Ieee.signed false m (-(d : Int) - -(d : Int)).toNat + Ieee.signed false 4503599627370496 ((0 : Int) - -(d : Int)).toNat = ((m + 4503599627370496 * 2 ^ d : Nat) : Int) := by
    have e1 : (-(d : Int) - -(d : Int)).toNat = 0 := by omega
    have e2 : ((0 : Int) - -(d : Int)).toNat = d := by omega
    rw [e1, e2]
    simp [Ieee.signed, Nat.shiftLeft_eq]
  simp only [Ieee.Datum.sum, Option.map_some]
  rw [b, t, if_neg (by omega), decide_eq_false (by omega)]
  simp only [Ieee.Format.write, Int.natAbs_natCast]
  rw [nearest_big false m d hd hm]
  rfl

theorem c_minus {x m d : Nat} (hx : Ieee.double.read x = .number true m (-(d : Int))) (hd : d ≤ 1074) (hm : m < 4503599627370496 * 2 ^ d) :
    floatBits .sub .f64 4841369599423283200 x = some (4841369599423283200 + rne m d) := by
  show ((Ieee.double.read 4841369599423283200).sum (Ieee.double.read x).opposite).map Ieee.double.write = _
  rw [hx, read_c]
  have hp : 0 < 2 ^ d := Nat.two_pow_pos d
  have b : min (0 : Int) (-(d : Int)) = -(d : Int) := by omega
  have t : Ieee.signed false 4503599627370496 ((0 : Int) - -(d : Int)).toNat + Ieee.signed false m (-(d : Int) - -(d : Int)).toNat = ((m + 4503599627370496 * 2 ^ d : Nat) : Int) := by
    have e1 : (-(d : Int) - -(d : Int)).toNat = 0 := by omega
    have e2 : ((0 : Int) - -(d : Int)).toNat = d := by omega
    rw [e1, e2]
    simp [Ieee.signed, Nat.shiftLeft_eq]; omega
  simp only [Ieee.Datum.sum, Option.map_some, Ieee.Datum.opposite, Bool.not_true]
  rw [b, t, if_neg (by omega), decide_eq_false (by omega)]
  simp only [Ieee.Format.write, Int.natAbs_natCast]
  rw [nearest_big false m d hd hm]
  rfl

/-- What a word stands for, and what word it is. -/
theorem read_cases (x : Nat) (hx : x < 18446744073709551616) :
    (Ieee.double.read x).isNaN = true ∨ (∃ s, Ieee.double.read x = .infinity s ∧ x = Ieee.double.word s 9218868437227405312) ∨
    (∃ s, Ieee.double.read x = .number s 0 (-1074) ∧ x = Ieee.double.word s 0) ∨
    (∃ (s : Bool) (m d : Nat), d ≤ 1074 ∧ 1 ≤ d ∧ 0 < m ∧ m < 9007199254740992 ∧ (4503599627370496 ≤ m ∨ d = 1074) ∧ Ieee.double.read x = .number s m (-(d : Int)) ∧ x = Ieee.double.word s ((1074 - d) * 4503599627370496 + m)) ∨
    (∃ (s : Bool) (m e : Nat), e ≤ 971 ∧ 4503599627370496 ≤ m ∧ m < 9007199254740992 ∧ Ieee.double.read x = .number s m (e : Int) ∧ x = Ieee.double.word s ((1074 + e) * 4503599627370496 + m)) := by
  unfold Ieee.Format.word
  unfold Ieee.Format.read
  simp only [e_sign, e_bin, e_inf, e_least]
  generalize hs : (x / 9223372036854775808 % 2 == 1) = s
  have hx2 : x = (if s = true then 9223372036854775808 + x % 9223372036854775808 else x % 9223372036854775808) := by
    cases s
    · have : x / 9223372036854775808 % 2 ≠ 1 := by simpa using hs
      simp; omega
    · have : x / 9223372036854775808 % 2 = 1 := by simpa using hs
      simp; omega
  generalize hk : x % 9223372036854775808 = k at *
  by_cases h1 : k < 4503599627370496
  · rw [if_pos h1]
    by_cases h0 : k = 0
    · subst h0
      exact Or.inr (Or.inr (Or.inl ⟨s, rfl, hx2⟩))
    · exact Or.inr (Or.inr (Or.inr (Or.inl ⟨s, k, 1074, by omega, by omega, by omega, by omega, Or.inr rfl, rfl, by simpa using hx2⟩)))
  · rw [if_neg h1]
    by_cases h2 : k < 9218868437227405312
    · rw [if_pos h2]
      by_cases h3 : k / 4503599627370496 ≤ 1074
      · refine Or.inr (Or.inr (Or.inr (Or.inl ⟨s, 4503599627370496 + k % 4503599627370496, 1075 - k / 4503599627370496, by omega, by omega, by omega, by omega, Or.inl (by omega), ?_, ?_⟩)))
        · congr 1
          omega
        · rw [show (1074 - (1075 - k / 4503599627370496)) * 4503599627370496 + (4503599627370496 + k % 4503599627370496) = k by omega]
          exact hx2
      · refine Or.inr (Or.inr (Or.inr (Or.inr ⟨s, 4503599627370496 + k % 4503599627370496, k / 4503599627370496 - 1075, by omega, by omega, by omega, ?_, ?_⟩)))
        · congr 1
          omega
        · rw [show (1074 + (k / 4503599627370496 - 1075)) * 4503599627370496 + (4503599627370496 + k % 4503599627370496) = k by omega]
          exact hx2
    · rw [if_neg h2]
      by_cases h3 : k = 9218868437227405312
      · rw [if_pos h3]
        subst h3
        exact Or.inr (Or.inl ⟨s, rfl, hx2⟩)
      · rw [if_neg h3]
        exact Or.inl rfl

/-- A great number, all of it whole, is written as it was. -/
theorem nearest_great (s : Bool) (m e : Nat) (he : e ≤ 971) (h0 : 4503599627370496 ≤ m) (h1 : m < 9007199254740992) : Ieee.double.nearest s (m <<< e) 0 = Ieee.double.word s ((1074 + e) * 4503599627370496 + m) := by
  have hp : 0 < 2 ^ e := Nat.two_pow_pos e
  rw [Nat.shiftLeft_eq]
  have hl : (m * 2 ^ e).log2 = 52 + e := by
    refine log2_eq ?_ ?_
    · rw [Nat.pow_add]
      exact Nat.mul_le_mul_right _ h0
    · rw [Nat.add_right_comm, Nat.pow_add]
      exact Nat.mul_lt_mul_of_pos_right h1 hp
  have hne : m * 2 ^ e ≠ 0 := Nat.mul_ne_zero (by omega) (by omega)
  unfold Ieee.Format.nearest
  rw [if_neg hne, hl]
  simp only [e_frac, e_least, e_bin, e_inf, cut_even]
  have a1 : max ((0 : Int) + ((52 + e : Nat) : Int) - (52 : Nat)) (-1074) = (e : Int) := by omega
  have a2 : ((0 : Int) - (e : Int)).toNat = 0 := by omega
  have a3 : ((e : Int) - 0).toNat = e := by omega
  have a4 : rne (m * 2 ^ e) e = m := by
    unfold rne
    rw [Nat.mul_mod_left, Nat.mul_div_cancel _ hp]
    have b2 : (2 ^ e == 2 * 0) = false := by simp
    simp [b2]
  rw [a1, a2, a3, Nat.shiftLeft_zero, a4]
  congr 1
  omega
end

section
theorem log2_scale (n j : Nat) (h : n ≠ 0) : (n * 2 ^ j).log2 = n.log2 + j := by
  refine log2_eq ?_ ?_
  · rw [Nat.pow_add]
    exact Nat.mul_le_mul_right _ (Nat.log2_self_le h)
  · rw [Nat.add_right_comm, Nat.pow_add]
    exact Nat.mul_lt_mul_of_pos_right Nat.lt_log2_self (Nat.two_pow_pos j)

theorem rne_scale (n d j : Nat) : rne (n * 2 ^ j) (d + j) = rne n d := by
  have hp : 0 < 2 ^ j := Nat.two_pow_pos j
  unfold rne
  rw [Nat.pow_add, Nat.mul_div_mul_right _ _ hp, Nat.mul_mod_mul_right]
  have e1 : decide (2 ^ d * 2 ^ j < 2 * (n % 2 ^ d * 2 ^ j)) = decide (2 ^ d < 2 * (n % 2 ^ d)) := by
    rw [← Nat.mul_assoc]
    exact decide_eq_decide.2 ⟨fun h => Nat.lt_of_mul_lt_mul_right h, fun h => Nat.mul_lt_mul_of_pos_right h hp⟩
  have e2 : (2 ^ d * 2 ^ j == 2 * (n % 2 ^ d * 2 ^ j)) = (2 ^ d == 2 * (n % 2 ^ d)) := by
    rw [← Nat.mul_assoc, Bool.eq_iff_iff, beq_iff_eq, beq_iff_eq]
    exact ⟨fun h => Nat.eq_of_mul_eq_mul_right hp h, fun h => congrArg (· * 2 ^ j) h⟩
  rw [e1, e2]

theorem rne_zero (n : Nat) : rne n 0 = n := by unfold rne; simp [Nat.mod_one]

/-- What is written hangs on the number alone. -/
theorem nearest_scale (s : Bool) (m j : Nat) (p : Int) : Ieee.double.nearest s (m * 2 ^ j) (p - j) = Ieee.double.nearest s m p := by
  by_cases h : m = 0
  · subst h; simp [Ieee.Format.nearest]
  · have hp : 0 < 2 ^ j := Nat.two_pow_pos j
    have hne : m * 2 ^ j ≠ 0 := Nat.mul_ne_zero h (by omega)
    unfold Ieee.Format.nearest
    rw [if_neg h, if_neg hne, log2_scale m j h]
    simp only [e_frac, e_least, e_bin, e_inf, cut_even]
    have a1 : max (p - (j : Int) + ((m.log2 + j : Nat) : Int) - (52 : Nat)) (-1074) = max (p + (m.log2 : Int) - (52 : Nat)) (-1074) := by omega
    rw [a1]
    generalize max (p + (m.log2 : Int) - (52 : Nat)) (-1074) = last
    have key : rne ((m * 2 ^ j) <<< (p - (j : Int) - last).toNat) (last - (p - (j : Int))).toNat = rne (m <<< (p - last).toNat) (last - p).toNat := by
      by_cases c : last ≤ p - j
      · have b1 : (last - (p - (j : Int))).toNat = 0 := by omega
        have b2 : (last - p).toNat = 0 := by omega
        have b3 : (p - last).toNat = j + (p - (j : Int) - last).toNat := by omega
        rw [b1, b2, b3, rne_zero, rne_zero, Nat.shiftLeft_eq, Nat.shiftLeft_eq, Nat.pow_add, Nat.mul_assoc]
      · have b1 : (p - (j : Int) - last).toNat = 0 := by omega
        rw [b1, Nat.shiftLeft_zero]
        by_cases c2 : last ≤ p
        · have b2 : (last - p).toNat = 0 := by omega
          have b3 : j = (p - last).toNat + (last - (p - (j : Int))).toNat := by omega
          rw [b2, rne_zero, Nat.shiftLeft_eq]
          generalize (p - last).toNat = u at *
          generalize (last - (p - (j : Int))).toNat = v at *
          subst b3
          rw [Nat.pow_add, ← Nat.mul_assoc]
          have := rne_scale (m * 2 ^ u) 0 v
          rw [Nat.zero_add, rne_zero] at this
          exact this
        · have b2 : (p - last).toNat = 0 := by omega
          have b3 : (last - (p - (j : Int))).toNat = (last - p).toNat + j := by omega
          rw [b2, Nat.shiftLeft_zero, b3, rne_scale]
    rw [key]

theorem sign_mod (s : Bool) {x : Nat} (h : x < 9223372036854775808) : (if s = true then 9223372036854775808 + x else x) % 9223372036854775808 = x := by
  cases s
  · rw [if_neg (by decide)]; omega
  · rw [if_pos rfl]; omega

theorem sign_div (s : Bool) {x : Nat} (h : x < 9223372036854775808) : ((if s = true then 9223372036854775808 + x else x) / 9223372036854775808 % 2 == 1) = s := by
  cases s
  · rw [if_neg (by decide), Nat.div_eq_of_lt h]; rfl
  · rw [if_pos rfl, show (9223372036854775808 + x) / 9223372036854775808 = 1 by omega]; rfl

/-- What a sign and a finite rung stand for. -/
theorem read_rung (s : Bool) (q k : Nat) (h0 : 4503599627370496 ≤ k) (h1 : k < 9007199254740992) (hq : q ≤ 2045) : Ieee.double.read (Ieee.double.word s (q * 4503599627370496 + k)) = .number s k (-1074 + q) := by
  have hx : q * 4503599627370496 + k < 9223372036854775808 := by omega
  unfold Ieee.Format.read Ieee.Format.word
  simp only [e_sign, e_bin, e_inf, e_least]
  rw [sign_mod s hx, sign_div s hx, if_neg (by omega), if_pos (by omega)]
  have c1 : 4503599627370496 + (q * 4503599627370496 + k) % 4503599627370496 = k := by omega
  have c2 : (q * 4503599627370496 + k) / 4503599627370496 - 1 = q := by omega
  rw [c1, c2]

theorem read_low (s : Bool) (k : Nat) (h1 : k < 4503599627370496) : Ieee.double.read (Ieee.double.word s k) = .number s k (-1074) := by
  have hx : k < 9223372036854775808 := by omega
  unfold Ieee.Format.read Ieee.Format.word
  simp only [e_sign, e_bin, e_inf, e_least]
  rw [sign_mod s hx, sign_div s hx, if_pos h1]

theorem min_rung (q k : Nat) (hq : q ≤ 2045) (hk : k < 9007199254740992) : min (q * 4503599627370496 + k) 9218868437227405312 = q * 4503599627370496 + k := by
  apply Nat.min_eq_left
  omega

/-- A number that the format has, read from its word. -/
theorem read_nearest (s : Bool) (m : Nat) (p : Int) (h0 : m ≠ 0) (h1 : m < 9007199254740992) (h2 : -1074 ≤ p) (h3 : p + m.log2 ≤ 1023) :
    ∃ j : Nat, j ≤ 52 ∧ m * 2 ^ j < 9007199254740992 ∧ Ieee.double.read (Ieee.double.nearest s m p) = .number s (m * 2 ^ j) (p - j) := by
  have hL : m.log2 ≤ 52 := by
    have := (Nat.log2_lt h0).2 (show m < 2 ^ 53 by omega)
    omega
  have hb0 := Nat.log2_self_le h0
  have hb1 : m < 2 ^ (m.log2 + 1) := Nat.lt_log2_self
  unfold Ieee.Format.nearest
  rw [if_neg h0]
  simp only [e_frac, e_least, e_bin, e_inf, cut_even]
  generalize hl : m.log2 = L at *
  by_cases c : -1074 < p + (L : Int) - 52
  · have a1 : max (p + (L : Int) - (52 : Nat)) (-1074) = p + L - 52 := by omega
    rw [a1]
    have a2 : (p - (p + (L : Int) - 52)).toNat = 52 - L := by omega
    have a3 : (p + (L : Int) - 52 - p).toNat = 0 := by omega
    have a4 : (p + (L : Int) - 52 - -1074).toNat = (p + L + 1022).toNat := by omega
    rw [a2, a3, a4, rne_zero, Nat.shiftLeft_eq]
    have k0 : 4503599627370496 ≤ m * 2 ^ (52 - L) := by
      have : 2 ^ L * 2 ^ (52 - L) = 4503599627370496 := by rw [← Nat.pow_add, show L + (52 - L) = 52 by omega]
      rw [← this]
      exact Nat.mul_le_mul_right _ hb0
    have k1 : m * 2 ^ (52 - L) < 9007199254740992 := by
      have : 2 ^ (L + 1) * 2 ^ (52 - L) = 9007199254740992 := by rw [← Nat.pow_add, show L + 1 + (52 - L) = 53 by omega]
      rw [← this]
      exact Nat.mul_lt_mul_of_pos_right hb1 (Nat.two_pow_pos _)
    refine ⟨52 - L, by omega, k1, ?_⟩
    obtain ⟨q, hq1, hq2⟩ : ∃ q : Nat, (p + L + 1022).toNat = q ∧ (q : Int) = p + L + 1022 := ⟨(p + L + 1022).toNat, rfl, by omega⟩
    have hq3 : q ≤ 2045 := by omega
    have e1 : (-1074 : Int) + q = p - ((52 - L : Nat) : Int) := by omega
    rw [hq1, min_rung q _ hq3 k1, read_rung s q _ k0 k1 hq3, e1]
  · have a1 : max (p + (L : Int) - (52 : Nat)) (-1074) = -1074 := by omega
    rw [a1]
    obtain ⟨j, hj⟩ : ∃ j : Nat, (p - -1074).toNat = j ∧ (j : Int) = p + 1074 := ⟨(p - -1074).toNat, rfl, by omega⟩
    have a3 : ((-1074 : Int) - p).toNat = 0 := by omega
    rw [hj.1, a3, rne_zero, Nat.shiftLeft_eq]
    have k1 : m * 2 ^ j < 9007199254740992 := by
      have h5 : 2 ^ (L + 1) * 2 ^ j ≤ 2 ^ 53 := by rw [← Nat.pow_add]; exact Nat.pow_le_pow_right (by decide) (by omega)
      have h6 : m * 2 ^ j < 2 ^ (L + 1) * 2 ^ j := Nat.mul_lt_mul_of_pos_right hb1 (Nat.two_pow_pos _)
      omega
    refine ⟨j, by omega, k1, ?_⟩
    generalize m * 2 ^ j = k at *
    have a4 : ((-1074 : Int) - -1074).toNat = 0 := by omega
    have a5 := min_rung 0 k (by omega) k1
    rw [Nat.zero_mul, Nat.zero_add] at a5
    rw [a4, Nat.zero_mul, Nat.zero_add, a5]
    by_cases c2 : k < 4503599627370496
    · rw [read_low s k c2]
      congr 1
      omega
    · have := read_rung s 0 k (by omega) k1 (by omega)
      rw [Nat.zero_mul, Nat.zero_add] at this
      rw [this]
      congr 1
      omega

theorem read_two : Ieee.double.read 4611686018427387904 = .number false 4503599627370496 (-51) := by decide +kernel

/-- Doubled. -/
theorem twice (s : Bool) (m : Nat) (p : Int) (h0 : m ≠ 0) (h1 : m < 9007199254740992) (h2 : -1074 ≤ p) (h3 : p + m.log2 ≤ 1023) :
    floatBits .mul .f64 (Ieee.double.nearest s m p) 4611686018427387904 = some (Ieee.double.nearest s m (p + 1)) := by
  obtain ⟨j, _, _, hr⟩ := read_nearest s m p h0 h1 h2 h3
  show ((Ieee.double.read (Ieee.double.nearest s m p)).product (Ieee.double.read 4611686018427387904)).map Ieee.double.write = _
  rw [hr, read_two]
  simp only [Ieee.Datum.product, Option.map_some, Ieee.Format.write, Bool.xor_false]
  rw [← nearest_scale s m (j + 52) (p + 1), Nat.pow_add, ← Nat.mul_assoc]
  congr 2
  omega

/-- Halved. -/
theorem half (s : Bool) (m : Nat) (p : Int) (h0 : m ≠ 0) (h1 : m < 9007199254740992) (h2 : -1074 ≤ p) (h3 : p + m.log2 ≤ 1023) :
    floatBits .quo .f64 (Ieee.double.nearest s m p) 4611686018427387904 = some (Ieee.double.nearest s m (p - 1)) := by
  obtain ⟨j, _, hk, hr⟩ := read_nearest s m p h0 h1 h2 h3
  show ((Ieee.double.read (Ieee.double.nearest s m p)).quotient 54 (Ieee.double.read 4611686018427387904)).map Ieee.double.write = _
  rw [hr, read_two]
  have hk0 : m * 2 ^ j ≠ 0 := Nat.mul_ne_zero h0 (by have := Nat.two_pow_pos j; omega)
  have hL : (m * 2 ^ j).log2 ≤ 52 := by
    have := (Nat.log2_lt hk0).2 (show m * 2 ^ j < 2 ^ 53 by omega)
    omega
  simp only [Ieee.Datum.quotient, Bool.xor_false]
  rw [if_neg (by decide)]
  simp only [Option.map_some]
  have l52 : Nat.log2 4503599627370496 = 52 := by decide +kernel
  rw [l52]
  obtain ⟨u, hu⟩ : ∃ u, 54 + 52 - (m * 2 ^ j).log2 = 52 + u := ⟨54 - (m * 2 ^ j).log2, by omega⟩
  rw [hu, Nat.shiftLeft_eq]
  have e1 : m * 2 ^ j * 2 ^ (52 + u) = m * 2 ^ j * 2 ^ u * 4503599627370496 := by
    rw [Nat.add_comm, Nat.pow_add, ← Nat.mul_assoc]
  rw [e1, Nat.mul_div_cancel _ (by decide), Nat.mul_mod_left]
  have e2 : 2 * (m * 2 ^ j * 2 ^ u) + ((0 : Nat) != 0).toNat = m * 2 ^ (j + u + 1) := by
    rw [Nat.pow_add, Nat.pow_add, Nat.pow_one]
    show 2 * (m * 2 ^ j * 2 ^ u) + 0 = _
    rw [Nat.add_zero]
    ac_rfl
  have e3 : p - (j : Int) - -51 - ((52 + u : Nat) : Int) - 1 = p - 1 - ((j + u + 1 : Nat) : Int) := by omega
  rw [e2, e3]
  exact congrArg some (nearest_scale s m (j + u + 1) (p - 1))

/-- A word is what is written of what it stands for. -/
theorem write_read {x : Nat} (hx : x < 18446744073709551616) {s : Bool} {m : Nat} {p : Int} (h : Ieee.double.read x = .number s m p) : Ieee.double.nearest s m p = x := by
  rcases read_cases x hx with h1 | ⟨s1, h1, _⟩ | ⟨s1, h1, hw⟩ | ⟨s1, m1, d, hd, hd1, h0, h2, h3, h1, hw⟩ | ⟨s1, m1, e, he, h0, h2, h1, hw⟩
  · rw [h] at h1; cases h1
  · rw [h] at h1; cases h1
  · rw [h] at h1
    cases h1
    rw [hw]; rfl
  · rw [h] at h1
    cases h1
    rw [hw]
    unfold Ieee.Format.nearest
    rw [if_neg (by omega)]
    simp only [e_frac, e_least, e_bin, e_inf, cut_even]
    have hL : m.log2 ≤ 52 := by
      have := (Nat.log2_lt (show m ≠ 0 by omega)).2 (show m < 2 ^ 53 by omega)
      omega
    have a1 : max (-(d : Int) + (m.log2 : Int) - (52 : Nat)) (-1074) = -(d : Int) := by
      rcases h3 with h3 | h3
      · have : m.log2 = 52 := log2_eq (by omega) (by omega)
        omega
      · omega
    have a2 : (-(d : Int) - -(d : Int)).toNat = 0 := by omega
    have a3 : (-(d : Int) - -1074).toNat = 1074 - d := by omega
    rw [a1, a2, a3, Nat.shiftLeft_zero, rne_zero]
    congr 1
    omega
  · rw [h] at h1
    cases h1
    rw [hw, ← nearest_great s m e he h0 h2, Nat.shiftLeft_eq]
    have := nearest_scale s m e (e : Int)
    rw [Int.sub_self] at this
    exact this.symm
end

section
theorem xor_sign {k : Nat} (h : k < 9223372036854775808) : k ^^^ 9223372036854775808 = 9223372036854775808 + k := by
  have e : (9223372036854775808 : Nat) = 2 ^ 63 := by decide
  rw [e] at *
  apply Nat.eq_of_testBit_eq
  intro i
  rw [Nat.testBit_xor, Nat.testBit_two_pow]
  by_cases hi : i = 63
  · subst hi
    rw [Nat.testBit_two_pow_add_eq]
    simp
  · rw [decide_eq_false (by omega), Bool.xor_false]
    rcases Nat.lt_or_gt_of_ne hi with h1 | h1
    · rw [Nat.testBit_two_pow_add_gt h1]
    · have h2 : 2 ^ 64 ≤ 2 ^ i := Nat.pow_le_pow_right (by decide) (by omega)
      have a : k.testBit i = false := Nat.testBit_lt_two_pow (by omega)
      have b : (2 ^ 63 + k).testBit i = false := Nat.testBit_lt_two_pow (by omega)
      rw [a, b]

theorem nearest_neg (m : Nat) (i : Int) : Op.negFloat .f64 (Ieee.double.nearest false m i) = Ieee.double.nearest true m i := by
  show Ieee.double.nearest false m i ^^^ 9223372036854775808 = _
  unfold Ieee.Format.nearest
  dsimp only
  split
  · exact xor_sign (by decide)
  · have h := Nat.min_le_right ((max (i + (m.log2 : Int) - Ieee.double.fractionBits) Ieee.double.leastPlace - Ieee.double.leastPlace).toNat * Ieee.double.binade + Ieee.Toward.even.cut false (m <<< (i - max (i + (m.log2 : Int) - Ieee.double.fractionBits) Ieee.double.leastPlace).toNat) (max (i + (m.log2 : Int) - Ieee.double.fractionBits) Ieee.double.leastPlace - i).toNat) Ieee.double.infRung
    rw [e_inf] at h
    simp only [cut_even, e_inf] at *
    unfold Ieee.Format.word
    rw [e_sign]
    simp only [Bool.false_eq_true, if_false, if_true]
    exact xor_sign (by omega)
end
end Go.Proofs.YtddbekacdfohpaaGreatDoor.Q

namespace Go.Proofs.YtddbekacdfohpaaGreatDoor.Q
open Go.RowKit

/-- What bits stand for; all NaNs are one. -/
def cn (b : Nat) : Option Nat := if (Ieee.double.read b).isNaN then none else some b

/-- An operation on what bits stand for. -/
def cop (op : BinOp) (x y : Option Nat) : Option Nat := x.bind fun a => y.bind fun b => floatBits op .f64 a b

theorem word_not_nan (neg : Bool) (k : Nat) (h : k ≤ Ieee.double.infRung) : (Ieee.double.read (Ieee.double.word neg k)).isNaN = false := by
  have e1 : Ieee.double.signWeight = 9223372036854775808 := by decide
  have e2 : Ieee.double.infRung = 9218868437227405312 := by decide
  have e3 : Ieee.double.binade = 4503599627370496 := by decide
  rw [e2] at h
  have hm : Ieee.double.word neg k % 9223372036854775808 = k := by
    unfold Ieee.Format.word
    rw [e1]
    split <;> omega
  unfold Ieee.Format.read
  simp only [e1, e2, e3, hm]
  split
  · rfl
  · split
    · rfl
    · split
      · rfl
      · omega

theorem write_not_nan (d : Ieee.Datum) (h : d.isNaN = false) : (Ieee.double.read (Ieee.double.write d)).isNaN = false := by
  cases d with
  | number s m e =>
    simp only [Ieee.Format.write, Ieee.Format.nearest]
    split
    · exact word_not_nan _ _ (Nat.zero_le _)
    · exact word_not_nan _ _ (Nat.min_le_right _ _)
  | infinity s => exact word_not_nan _ _ (Nat.le_refl _)
  | nan s f => simp [Ieee.Datum.isNaN] at h

theorem sum_not_nan {a b c : Ieee.Datum} (h : a.sum b = some c) : a.isNaN = false ∧ b.isNaN = false ∧ c.isNaN = false := by
  cases a <;> cases b <;> simp only [Ieee.Datum.sum] at h <;> first | (cases h; done) | skip
  all_goals first
    | (cases h; exact ⟨rfl, rfl, rfl⟩)
    | (split at h <;> first | (cases h; exact ⟨rfl, rfl, rfl⟩) | cases h)

theorem product_not_nan {a b c : Ieee.Datum} (h : a.product b = some c) : a.isNaN = false ∧ b.isNaN = false ∧ c.isNaN = false := by
  cases a <;> cases b <;> simp only [Ieee.Datum.product] at h <;> first | (cases h; done) | skip
  all_goals first
    | (cases h; exact ⟨rfl, rfl, rfl⟩)
    | (split at h <;> first | (cases h; exact ⟨rfl, rfl, rfl⟩) | cases h)

theorem quotient_not_nan {n : Nat} {a b c : Ieee.Datum} (h : a.quotient n b = some c) : a.isNaN = false ∧ b.isNaN = false ∧ c.isNaN = false := by
  cases a <;> cases b <;> simp only [Ieee.Datum.quotient] at h <;> first | (cases h; done) | skip
  all_goals first
    | (cases h; exact ⟨rfl, rfl, rfl⟩)
    | (split at h <;> first | (cases h; exact ⟨rfl, rfl, rfl⟩) | (split at h <;> first | (cases h; exact ⟨rfl, rfl, rfl⟩) | cases h))

theorem opposite_nan (a : Ieee.Datum) : a.opposite.isNaN = a.isNaN := by cases a <;> rfl

theorem map_some {α β : Type} {o : Option α} {f : α → β} {r : β} (h : o.map f = some r) : ∃ d, o = some d ∧ f d = r := by
  cases o with
  | none => cases h
  | some d => exact ⟨d, rfl, by simpa using h⟩

/-- A valid operation: no operand is a NaN, nor what it gives. -/
theorem bits_not_nan {op : BinOp} {x y r : Nat} (h : floatBits op .f64 x y = some r) : (Ieee.double.read x).isNaN = false ∧ (Ieee.double.read y).isNaN = false ∧ (Ieee.double.read r).isNaN = false := by
  unfold floatBits at h
  split at h
  · obtain ⟨d, hd, rfl⟩ := map_some h
    obtain ⟨h1, h2, h3⟩ := sum_not_nan hd
    exact ⟨h1, h2, write_not_nan _ h3⟩
  · obtain ⟨d, hd, rfl⟩ := map_some h
    obtain ⟨h1, h2, h3⟩ := sum_not_nan hd
    rw [opposite_nan] at h2
    exact ⟨h1, h2, write_not_nan _ h3⟩
  · obtain ⟨d, hd, rfl⟩ := map_some h
    obtain ⟨h1, h2, h3⟩ := product_not_nan hd
    exact ⟨h1, h2, write_not_nan _ h3⟩
  · obtain ⟨d, hd, rfl⟩ := map_some h
    obtain ⟨h1, h2, h3⟩ := quotient_not_nan hd
    exact ⟨h1, h2, write_not_nan _ h3⟩
  · cases h

theorem cn_some {x : Nat} (h : (Ieee.double.read x).isNaN = false) : cn x = some x := by simp [cn, h]

theorem cn_none {x : Nat} (h : (Ieee.double.read x).isNaN = true) : cn x = none := by simp [cn, h]

/-- What a float operation gives in a world (a NaN is drawn), and the world behind it. -/
def fres (op : BinOp) (w : World) (x y : Nat) : Nat := (floatBits op .f64 x y).getD ((Question.nanBits .f64 x y).cut (w.tape w.drawn (.nanBits .f64 x y)))
def fwor (op : BinOp) (w : World) (x y : Nat) : World := if (floatBits op .f64 x y).isSome then w else w.drew

theorem run_fop (op : BinOp) (hop : op = .add ∨ op = .sub ∨ op = .mul ∨ op = .quo) (P : Program) (t : TypeId) (x y : Nat) (w : World) :
    (binOp op t (.float .f64 x) (.float .f64 y)).run P w = .ok (.float .f64 (fres op w x y)) (fwor op w x y) := by
  unfold fres fwor
  cases h : floatBits op .f64 x y with
  | some r => rw [run_float_arith w op t .f64 x y r h]; simp
  | none =>
    unfold floatBits at h
    rcases hop with rfl | rfl | rfl | rfl <;> simp only at h <;> simp [binOp, Op.floatArith, h, Question.forced]

theorem fwor_cell (op : BinOp) (w : World) (x y : Nat) (a : Addr) : (fwor op w x y).cell? a = w.cell? a := by
  unfold fwor; split <;> rfl

theorem fwor_frozen (op : BinOp) (w : World) (x y : Nat) (a : Addr) : (fwor op w x y).frozen? a = w.frozen? a := by
  unfold fwor; split <;> rfl

theorem fwor_heap (op : BinOp) (w : World) (x y : Nat) : (fwor op w x y).heap = w.heap := by
  unfold fwor; split <;> rfl

theorem below_fwor {B : Nat} {w0 w : World} (h : Below B w0 w) (op : BinOp) (x y : Nat) : Below B w0 (fwor op w x y) := by
  unfold fwor; split
  · exact h
  · exact h.drew

theorem cut_nan (x y t : Nat) : (Ieee.double.read ((Question.nanBits .f64 x y).cut t)).isNaN = true := by
  have e1 : Ieee.double.signWeight = 9223372036854775808 := by decide
  have e2 : Ieee.double.infRung = 9218868437227405312 := by decide
  have e3 : Ieee.double.binade = 4503599627370496 := by decide
  have e : (Question.nanBits .f64 x y).cut t = (t % 2) * 9223372036854775808 + 9218868437227405312 + 1 + (t / 2) % 4503599627370495 := rfl
  have h1 : (t / 2) % 4503599627370495 < 4503599627370495 := Nat.mod_lt _ (by decide)
  have h2 : t % 2 < 2 := Nat.mod_lt _ (by decide)
  rw [e]
  generalize (t / 2) % 4503599627370495 = k at *
  generalize t % 2 = s at *
  unfold Ieee.Format.read
  simp only [e1, e2, e3]
  rw [if_neg (by omega), if_neg (by omega), if_neg (by omega)]
  rfl

/-- An operation's answer, all NaNs being one, is told by what its operands stand for. -/
theorem cn_fres (op : BinOp) (w : World) (x y : Nat) : cn (fres op w x y) = cop op (cn x) (cn y) := by
  unfold fres
  cases h : floatBits op .f64 x y with
  | some r =>
    obtain ⟨h1, h2, h3⟩ := bits_not_nan h
    rw [cn_some h1, cn_some h2]
    simp only [Option.getD_some, cop, Option.bind_some, h]
    exact cn_some h3
  | none =>
    simp only [Option.getD_none]
    rw [cn_none (cut_nan _ _ _)]
    cases hx : (Ieee.double.read x).isNaN with
    | true => simp [cn_none hx, cop]
    | false =>
      cases hy : (Ieee.double.read y).isNaN with
      | true => simp [cn_none hy, cop]
      | false => rw [cn_some hx, cn_some hy]; simp [cop, h]

theorem order_nan {x : Nat} (h : (Ieee.double.read x).isNaN = true) : FloatKind.f64.format.order x x = none := by
  show (Ieee.double.read x).order (Ieee.double.read x) = none
  cases hx : Ieee.double.read x <;> rw [hx] at h <;> first | (simp [Ieee.Datum.isNaN] at h; done) | rfl

theorem order_same {x : Nat} (h : (Ieee.double.read x).isNaN = false) : FloatKind.f64.format.order x x = some .eq := by
  show (Ieee.double.read x).order (Ieee.double.read x) = some .eq
  cases hx : Ieee.double.read x with
  | nan s f => rw [hx] at h; simp [Ieee.Datum.isNaN] at h
  | infinity s => simp [Ieee.Datum.order]
  | number s m e => simp [Ieee.Datum.order]

theorem quo_one {x : Nat} (h : (Ieee.double.read x).isNaN = false) : ∃ r, floatBits .quo .f64 4607182418800017408 x = some r := by
  have e : Ieee.double.read 4607182418800017408 = .number false 4503599627370496 (-52) := by decide +kernel
  show ∃ r, ((Ieee.double.read 4607182418800017408).quotient _ (Ieee.double.read x)).map _ = some r
  rw [e]
  cases hx : Ieee.double.read x with
  | nan s f => rw [hx] at h; simp [Ieee.Datum.isNaN] at h
  | infinity s => exact ⟨_, rfl⟩
  | number s m e =>
    simp only [Ieee.Datum.quotient]
    by_cases hm : m = 0
    · simp [hm]
    · simp [hm]

end Go.Proofs.YtddbekacdfohpaaGreatDoor.Q

namespace Go.Proofs.YtddbekacdfohpaaGreatDoor.Q

theorem order_def (x y : Nat) : FloatKind.f64.format.order x y = (Ieee.double.read x).order (Ieee.double.read y) := rfl
theorem icmp_lt {a b : Int} (h : a < b) : compare a b = .lt := by rw [Int.compare_eq_ite_lt, if_pos h]
theorem icmp_gt {a b : Int} (h : b < a) : compare a b = .gt := by rw [Int.compare_eq_ite_lt, if_neg (by omega), if_pos h]
theorem icmp_eq {a b : Int} (h : a = b) : compare a b = .eq := by rw [Int.compare_eq_ite_lt, if_neg (by omega), if_neg (by omega)]

theorem icmp_scale (a b u : Nat) : compare (((a * 2 ^ u : Nat) : Int)) ((b * 2 ^ u : Nat) : Int) = compare (a : Int) (b : Int) := by
  have hp : 0 < 2 ^ u := Nat.two_pow_pos u
  rcases Nat.lt_trichotomy a b with h | h | h
  · rw [icmp_lt (show (a : Int) < b by omega), icmp_lt]
    have := Nat.mul_lt_mul_of_pos_right h hp
    omega
  · subst h; rw [icmp_eq rfl, icmp_eq rfl]
  · rw [icmp_gt (show (b : Int) < a by omega), icmp_gt]
    have := Nat.mul_lt_mul_of_pos_right h hp
    omega

/-- Two numbers held against each other at any place below both. -/
theorem ord_at (a b : Nat) (i k base : Int) (h1 : base ≤ i) (h2 : base ≤ k) :
    (Ieee.Datum.number false a i).order (.number false b k) = some (compare ((a * 2 ^ (i - base).toNat : Nat) : Int) ((b * 2 ^ (k - base).toNat : Nat) : Int)) := by
  simp only [Ieee.Datum.order, Ieee.signed, Bool.false_eq_true, if_false, Nat.shiftLeft_eq]
  have e1 : (i - base).toNat = (i - min i k).toNat + (min i k - base).toNat := by omega
  have e2 : (k - base).toNat = (k - min i k).toNat + (min i k - base).toNat := by omega
  rw [e1, e2, Nat.pow_add, Nat.pow_add, ← Nat.mul_assoc, ← Nat.mul_assoc, icmp_scale]

/-- A float of the format held against another. -/
theorem ord_near {m : Nat} {q : Int} (h0 : m ≠ 0) (h1 : m < 9007199254740992) (h2 : -1074 ≤ q) (h3 : q + m.log2 ≤ 1023) {c b : Nat} {k : Int} (hc : Ieee.double.read c = .number false b k) (hk : -2000 ≤ k) :
    FloatKind.f64.format.order (Ieee.double.nearest false m q) c = some (compare ((m * 2 ^ (q + 2000).toNat : Nat) : Int) ((b * 2 ^ (k + 2000).toNat : Nat) : Int)) := by
  obtain ⟨j, hj, _, hr⟩ := read_nearest false m q h0 h1 h2 h3
  rw [order_def, hr, hc, ord_at _ _ _ _ (-2000) (by omega) (by omega), Nat.mul_assoc, ← Nat.pow_add]
  have e1 : j + (q - (j : Int) - -2000).toNat = (q + 2000).toNat := by omega
  have e2 : (k - -2000).toNat = (k + 2000).toNat := by omega
  rw [e1, e2]

theorem read_c2 : Ieee.double.read 4845873199050653696 = .number false 4503599627370496 1 := by decide +kernel
theorem read_0 : Ieee.double.read 0 = .number false 0 (-1074) := by decide +kernel

/-- m times 2 ^ a against 2 ^ b. -/
theorem pow_bounds {m : Nat} (h0 : m ≠ 0) (a : Nat) : 2 ^ (m.log2 + a) ≤ m * 2 ^ a ∧ m * 2 ^ a < 2 ^ (m.log2 + 1 + a) := by
  constructor
  · rw [Nat.pow_add]; exact Nat.mul_le_mul_right _ (Nat.log2_self_le h0)
  · rw [Nat.pow_add]; exact Nat.mul_lt_mul_of_pos_right Nat.lt_log2_self (Nat.two_pow_pos a)

theorem ord_pow {m : Nat} {q : Int} (h0 : m ≠ 0) (h1 : m < 9007199254740992) (h2 : -1074 ≤ q) (h3 : q + m.log2 ≤ 1023) {c : Nat} {k : Int} (hc : Ieee.double.read c = .number false 4503599627370496 k) (hk : -2000 ≤ k) :
    (q + m.log2 < 52 + k → FloatKind.f64.format.order (Ieee.double.nearest false m q) c = some .lt) ∧
    (52 + k ≤ q + m.log2 → FloatKind.f64.format.order (Ieee.double.nearest false m q) c = some .gt ∨ FloatKind.f64.format.order (Ieee.double.nearest false m q) c = some .eq) := by
  rw [ord_near h0 h1 h2 h3 hc hk]
  obtain ⟨p1, p2⟩ := pow_bounds h0 (q + 2000).toNat
  have e : 4503599627370496 * 2 ^ (k + 2000).toNat = 2 ^ (52 + (k + 2000).toNat) := by rw [Nat.pow_add]
  rw [e]
  constructor
  · intro h
    have : 2 ^ (m.log2 + 1 + (q + 2000).toNat) ≤ 2 ^ (52 + (k + 2000).toNat) := Nat.pow_le_pow_right (by decide) (by omega)
    rw [icmp_lt]
    exact Int.ofNat_lt.2 (Nat.lt_of_lt_of_le p2 this)
  · intro h
    have : 2 ^ (52 + (k + 2000).toNat) ≤ 2 ^ (m.log2 + (q + 2000).toNat) := Nat.pow_le_pow_right (by decide) (by omega)
    rcases Nat.lt_or_eq_of_le (Nat.le_trans this p1) with g | g
    · left; rw [icmp_gt]; exact Int.ofNat_lt.2 g
    · right; rw [icmp_eq]; exact congrArg Int.ofNat g.symm

theorem ord_53 {m : Nat} {q : Int} (h0 : m ≠ 0) (h1 : m < 9007199254740992) (h2 : -1074 ≤ q) (h3 : q + m.log2 ≤ 1023) :
    (q + m.log2 < 53 → FloatKind.f64.format.order (Ieee.double.nearest false m q) 4845873199050653696 = some .lt) ∧
    (53 ≤ q + m.log2 → FloatKind.f64.format.order (Ieee.double.nearest false m q) 4845873199050653696 = some .gt ∨ FloatKind.f64.format.order (Ieee.double.nearest false m q) 4845873199050653696 = some .eq) :=
  ord_pow h0 h1 h2 h3 read_c2 (by decide)

theorem ord_52 {m : Nat} {q : Int} (h0 : m ≠ 0) (h1 : m < 9007199254740992) (h2 : -1074 ≤ q) (h3 : q + m.log2 ≤ 1023) :
    (q + m.log2 < 52 → FloatKind.f64.format.order (Ieee.double.nearest false m q) 4841369599423283200 = some .lt) ∧
    (52 ≤ q + m.log2 → FloatKind.f64.format.order (Ieee.double.nearest false m q) 4841369599423283200 = some .gt ∨ FloatKind.f64.format.order (Ieee.double.nearest false m q) 4841369599423283200 = some .eq) :=
  ord_pow h0 h1 h2 h3 read_c (by decide)

theorem ord_zero {m : Nat} {q : Int} (h0 : m ≠ 0) (h1 : m < 9007199254740992) (h2 : -1074 ≤ q) (h3 : q + m.log2 ≤ 1023) :
    FloatKind.f64.format.order (Ieee.double.nearest false m q) 0 = some .gt := by
  rw [ord_near h0 h1 h2 h3 read_0 (by decide), icmp_gt]
  rw [Nat.zero_mul]
  have := Nat.mul_pos (show 0 < m by omega) (Nat.two_pow_pos (q + 2000).toNat)
  omega

theorem rne_one_lt {m : Nat} (h : m ≠ 0) : rne m 1 < m := by
  unfold rne
  by_cases h1 : m = 1
  · subst h1; decide
  · by_cases h2 : m = 2
    · subst h2; decide
    · have : (decide (2 ^ 1 < 2 * (m % 2 ^ 1)) || (2 ^ 1 == 2 * (m % 2 ^ 1) && m / 2 ^ 1 % 2 == 1)).toNat ≤ 1 := Bool.toNat_le _
      omega

/-- A half is less than the whole. -/
theorem ord_half {x m : Nat} {q : Int} (h0 : m ≠ 0) (h1 : m < 9007199254740992) (h2 : -1074 ≤ q) (h3 : q + m.log2 ≤ 1023) (hx : Ieee.double.read x = .number false m q) :
    FloatKind.f64.format.order (Ieee.double.nearest false m (q - 1)) x = some .lt := by
  by_cases c : -1074 ≤ q - 1
  · rw [ord_near h0 h1 c (by omega) hx (by omega), icmp_lt]
    have e : (q + 2000).toNat = (q - 1 + 2000).toNat + 1 := by omega
    rw [e, Nat.pow_succ]
    have := Nat.mul_pos (show 0 < m by omega) (Nat.two_pow_pos (q - 1 + 2000).toNat)
    rw [← Nat.mul_assoc]
    omega
  · obtain rfl : q = -1074 := by omega
    have hL : m.log2 ≤ 52 := by
      have := (Nat.log2_lt h0).2 (show m < 2 ^ 53 by omega)
      omega
    have hr := rne_one_lt h0
    have hw : Ieee.double.nearest false m (-1074 - 1) = Ieee.double.word false (rne m 1) := by
      unfold Ieee.Format.nearest
      rw [if_neg h0]
      simp only [e_frac, e_least, e_bin, e_inf, cut_even]
      have a1 : max ((-1074 : Int) - 1 + (m.log2 : Int) - (52 : Nat)) (-1074) = -1074 := by omega
      rw [a1]
      have a2 : ((-1074 : Int) - 1 - -1074).toNat = 0 := by decide
      have a3 : ((-1074 : Int) - (-1074 - 1)).toNat = 1 := by decide
      have a4 : ((-1074 : Int) - -1074).toNat = 0 := by decide
      rw [a2, a3, a4, Nat.shiftLeft_zero, Nat.zero_mul, Nat.zero_add, Nat.min_eq_left (by omega)]
    rw [hw, order_def, hx]
    generalize rne m 1 = r at *
    by_cases c2 : r < 4503599627370496
    · rw [read_low false r c2, ord_at _ _ _ _ (-1074) (by omega) (by omega), icmp_lt]
      have e : ((-1074 : Int) - -1074).toNat = 0 := by decide
      rw [e, Nat.pow_zero, Nat.mul_one, Nat.mul_one]
      omega
    · have := read_rung false 0 r (by omega) (by omega) (by omega)
      rw [Nat.zero_mul, Nat.zero_add] at this
      rw [this, ord_at _ _ _ _ (-1074) (by omega) (by omega), icmp_lt]
      have e : ((-1074 : Int) - -1074).toNat = 0 := by decide
      have e' : ((-1074 : Int) + (0 : Nat) - -1074).toNat = 0 := by decide
      rw [e, e', Nat.pow_zero, Nat.mul_one, Nat.mul_one]
      omega

/-- A whole float as a whole number. -/
theorem to_whole {m t : Nat} (h0 : m ≠ 0) (h1 : m < 9007199254740992) (h2 : 4503599627370496 ≤ m * 2 ^ t) (h3 : m * 2 ^ t < 9007199254740992) (h4 : (t : Int) + m.log2 ≤ 1023) :
    floatToIntVal .f64 (Ieee.double.nearest false m t) .u64 = some ((m * 2 ^ t : Nat) : Int) := by
  obtain ⟨j, hj, hlt, hr⟩ := read_nearest false m t h0 h1 (by omega) h4
  have hjt : j ≤ t := by
    by_cases c : j ≤ t
    · exact c
    · exfalso
      have : m * 2 ^ (t + 1) ≤ m * 2 ^ j := Nat.mul_le_mul_left _ (Nat.pow_le_pow_right (by decide) (by omega))
      rw [Nat.pow_succ, ← Nat.mul_assoc] at this
      omega
  have hd : (FloatKind.f64.decode (Ieee.double.nearest false m t)).toInt .zero = some ((m * 2 ^ t : Nat) : Int) := by
    show (Ieee.double.read (Ieee.double.nearest false m t)).toInt .zero = _
    rw [hr]
    simp only [Ieee.Datum.toInt, Ieee.Datum.integral]
    have a1 : ((t : Int) - (j : Int)).toNat = t - j := by omega
    have a2 : (-((t : Int) - (j : Int))).toNat = 0 := by omega
    rw [a1, a2, Nat.shiftLeft_eq, Nat.mul_assoc, ← Nat.pow_add, show j + (t - j) = t by omega]
    have a3 : Ieee.Toward.zero.cut false (m * 2 ^ t) 0 = m * 2 ^ t := by
      unfold Ieee.Toward.cut
      simp
    rw [a3]
    simp [Ieee.signed]
  unfold floatToIntVal
  rw [hd]
  simp only
  have b0 : IntKind.u64.min = 0 := by decide
  have b1 : IntKind.u64.max = 18446744073709551615 := by decide
  rw [b0, b1, if_pos (by omega)]
end Go.Proofs.YtddbekacdfohpaaGreatDoor.Q
