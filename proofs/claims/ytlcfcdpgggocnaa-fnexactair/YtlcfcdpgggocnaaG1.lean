/- Numbers below 2 ^ 52 made whole by adding 2 ^ 52 and taking it off again. -/
import Derived.Test.YtlcfcdpgggocnaaG0
namespace Go.Proofs.Ytlcfcdpgggocnaa

theorem read_c : Ieee.double.read 4841369599423283200 = .number false 4503599627370496 0 := by decide +kernel
theorem read_cn : Ieee.double.read 14064741636278059008 = .number true 4503599627370496 0 := by decide +kernel

theorem nearest_big (neg : Bool) (m d : Nat) (hd : d ≤ 1074) (hm : m < 4503599627370496 * 2 ^ d) :
    Ieee.double.nearest neg (m + 4503599627370496 * 2 ^ d) (-(d : Int)) = Ieee.double.word neg (4841369599423283200 + rne m d) := by
  have hp : 0 < 2 ^ d := Nat.two_pow_pos d
  have hl : (m + 4503599627370496 * 2 ^ d).log2 = 52 + d := log2_eq (by rw [Nat.pow_add]; omega) (by rw [Nat.add_right_comm, Nat.pow_add]; omega)
  have hq := rne_le m d 4503599627370496 (by omega)
  unfold Ieee.Format.nearest
  rw [if_neg (by omega), hl]
  simp only [e_frac, e_least, e_bin, e_inf, cut_even]
  have e1 : max (-(d : Int) + ((52 + d : Nat) : Int) - (52 : Nat)) (-1074) = 0 := by omega
  have e2 : (-(d : Int) - 0).toNat = 0 := by omega
  have e3 : ((0 : Int) - -(d : Int)).toNat = d := by omega
  rw [e1, e2, e3, Nat.shiftLeft_zero, rne_add m d _ (by decide)]
  congr 1
  omega

theorem read_big (q : Nat) (h : q ≤ 4503599627370496) : Ieee.double.read (4841369599423283200 + q) = .number false (4503599627370496 + q) 0 ∨ (q = 4503599627370496 ∧ Ieee.double.read (4841369599423283200 + q) = .number false 4503599627370496 1) := by
  by_cases h1 : q = 4503599627370496
  · subst h1
    exact Or.inr ⟨rfl, by decide +kernel⟩
  · left
    unfold Ieee.Format.read
    simp only [e_sign, e_bin, e_inf, e_least]
    have a1 : (4841369599423283200 + q) / 9223372036854775808 = 0 := by omega
    have a2 : (4841369599423283200 + q) % 9223372036854775808 = 4841369599423283200 + q := by omega
    have a3 : (4841369599423283200 + q) % 4503599627370496 = q := by omega
    have a4 : (4841369599423283200 + q) / 4503599627370496 = 1075 := by omega
    rw [a1, a2, if_neg (by omega), if_pos (by omega), a3, a4]
    rfl

theorem whole_back (q : Nat) (h : q ≤ 4503599627370496) : floatBits .sub .f64 (4841369599423283200 + q) 4841369599423283200 = some (Ieee.double.nearest false q 0) := by
  show ((Ieee.double.read (4841369599423283200 + q)).sum (Ieee.double.read 4841369599423283200).opposite).map Ieee.double.write = _
  rw [read_c]
  rcases read_big q h with e | ⟨rfl, e⟩
  · rw [e]
    have t : Ieee.signed false (4503599627370496 + q) ((0 : Int) - min 0 0).toNat + Ieee.signed true 4503599627370496 ((0 : Int) - min 0 0).toNat = (q : Int) := by
      simp [Ieee.signed]; omega
    simp only [Ieee.Datum.opposite, Ieee.Datum.sum, Option.map_some, Bool.not_false]
    rw [t]
    by_cases h0 : q = 0
    · subst h0; rfl
    · have n1 : ¬ (q : Int) = 0 := by omega
      have n2 : decide ((q : Int) < 0) = false := by simp
      rw [if_neg n1, n2]
      rfl
  · rw [e]
    rfl

theorem plus_c {x m d : Nat} (hx : Ieee.double.read x = .number false m (-(d : Int))) (hd : d ≤ 1074) (hm : m < 4503599627370496 * 2 ^ d) :
    floatBits .add .f64 x 4841369599423283200 = some (4841369599423283200 + rne m d) := by
  show ((Ieee.double.read x).sum (Ieee.double.read 4841369599423283200)).map Ieee.double.write = _
  rw [hx, read_c]
  have hp : 0 < 2 ^ d := Nat.two_pow_pos d
  have b : min (-(d : Int)) 0 = -(d : Int) := by omega
  have t : Ieee.signed false m (-(d : Int) - -(d : Int)).toNat + Ieee.signed false 4503599627370496 ((0 : Int) - -(d : Int)).toNat = ((m + 4503599627370496 * 2 ^ d : Nat) : Int) := by
    have e1 : (-(d : Int) - -(d : Int)).toNat = 0 := by omega
    have e2 : ((0 : Int) - -(d : Int)).toNat = d := by omega
    rw [e1, e2]
    simp [Ieee.signed, Nat.shiftLeft_eq]
  simp only [Ieee.Datum.sum, Option.map_some]
  rw [b, t, if_neg (by omega), decide_eq_false (by omega)]
  simp only [Ieee.Format.write, Int.natAbs_natCast]
  rw [nearest_big false m d hd hm]
  rfl

theorem c_minus {x m d : Nat} (hx : Ieee.double.read x = .number true m (-(d : Int))) (hd : d ≤ 1074) (hm : m < 4503599627370496 * 2 ^ d) :
    floatBits .sub .f64 4841369599423283200 x = some (4841369599423283200 + rne m d) := by
  show ((Ieee.double.read 4841369599423283200).sum (Ieee.double.read x).opposite).map Ieee.double.write = _
  rw [hx, read_c]
  have hp : 0 < 2 ^ d := Nat.two_pow_pos d
  have b : min (0 : Int) (-(d : Int)) = -(d : Int) := by omega
  have t : Ieee.signed false 4503599627370496 ((0 : Int) - -(d : Int)).toNat + Ieee.signed false m (-(d : Int) - -(d : Int)).toNat = ((m + 4503599627370496 * 2 ^ d : Nat) : Int) := by
    have e1 : (-(d : Int) - -(d : Int)).toNat = 0 := by omega
    have e2 : ((0 : Int) - -(d : Int)).toNat = d := by omega
    rw [e1, e2]
    simp [Ieee.signed, Nat.shiftLeft_eq]; omega
  simp only [Ieee.Datum.sum, Option.map_some, Ieee.Datum.opposite, Bool.not_true]
  rw [b, t, if_neg (by omega), decide_eq_false (by omega)]
  simp only [Ieee.Format.write, Int.natAbs_natCast]
  rw [nearest_big false m d hd hm]
  rfl

/-- What a word stands for, and what word it is. -/
theorem read_cases (x : Nat) (hx : x < 18446744073709551616) :
    (Ieee.double.read x).isNaN = true ∨ (∃ s, Ieee.double.read x = .infinity s ∧ x = Ieee.double.word s 9218868437227405312) ∨
    (∃ s, Ieee.double.read x = .number s 0 (-1074) ∧ x = Ieee.double.word s 0) ∨
    (∃ (s : Bool) (m d : Nat), d ≤ 1074 ∧ 1 ≤ d ∧ 0 < m ∧ m < 9007199254740992 ∧ (4503599627370496 ≤ m ∨ d = 1074) ∧ Ieee.double.read x = .number s m (-(d : Int)) ∧ x = Ieee.double.word s ((1074 - d) * 4503599627370496 + m)) ∨
    (∃ (s : Bool) (m e : Nat), e ≤ 971 ∧ 4503599627370496 ≤ m ∧ m < 9007199254740992 ∧ Ieee.double.read x = .number s m (e : Int) ∧ x = Ieee.double.word s ((1074 + e) * 4503599627370496 + m)) := by
  unfold Ieee.Format.word
  unfold Ieee.Format.read
  simp only [e_sign, e_bin, e_inf, e_least]
  generalize hs : (x / 9223372036854775808 % 2 == 1) = s
  have hx2 : x = (if s = true then 9223372036854775808 + x % 9223372036854775808 else x % 9223372036854775808) := by
    cases s
    · have : x / 9223372036854775808 % 2 ≠ 1 := by simpa using hs
      simp; omega
    · have : x / 9223372036854775808 % 2 = 1 := by simpa using hs
      simp; omega
  generalize hk : x % 9223372036854775808 = k at *
  by_cases h1 : k < 4503599627370496
  · rw [if_pos h1]
    by_cases h0 : k = 0
    · subst h0
      exact Or.inr (Or.inr (Or.inl ⟨s, rfl, hx2⟩))
    · exact Or.inr (Or.inr (Or.inr (Or.inl ⟨s, k, 1074, by omega, by omega, by omega, by omega, Or.inr rfl, rfl, by simpa using hx2⟩)))
  · rw [if_neg h1]
    by_cases h2 : k < 9218868437227405312
    · rw [if_pos h2]
      by_cases h3 : k / 4503599627370496 ≤ 1074
      · refine Or.inr (Or.inr (Or.inr (Or.inl ⟨s, 4503599627370496 + k % 4503599627370496, 1075 - k / 4503599627370496, by omega, by omega, by omega, by omega, Or.inl (by omega), ?_, ?_⟩)))
        · congr 1
          omega
        · rw [show (1074 - (1075 - k / 4503599627370496)) * 4503599627370496 + (4503599627370496 + k % 4503599627370496) = k by omega]
          exact hx2
      · refine Or.inr (Or.inr (Or.inr (Or.inr ⟨s, 4503599627370496 + k % 4503599627370496, k / 4503599627370496 - 1075, by omega, by omega, by omega, ?_, ?_⟩)))
        · congr 1
          omega
        · rw [show (1074 + (k / 4503599627370496 - 1075)) * 4503599627370496 + (4503599627370496 + k % 4503599627370496) = k by omega]
          exact hx2
    · rw [if_neg h2]
      by_cases h3 : k = 9218868437227405312
      · rw [if_pos h3]
        subst h3
        exact Or.inr (Or.inl ⟨s, rfl, hx2⟩)
      · rw [if_neg h3]
        exact Or.inl rfl

/-- A great number, all of it whole, is written as it was. -/
theorem nearest_great (s : Bool) (m e : Nat) (he : e ≤ 971) (h0 : 4503599627370496 ≤ m) (h1 : m < 9007199254740992) : Ieee.double.nearest s (m <<< e) 0 = Ieee.double.word s ((1074 + e) * 4503599627370496 + m) := by
  have hp : 0 < 2 ^ e := Nat.two_pow_pos e
  rw [Nat.shiftLeft_eq]
  have hl : (m * 2 ^ e).log2 = 52 + e := by
    refine log2_eq ?_ ?_
    · rw [Nat.pow_add]
      exact Nat.mul_le_mul_right _ h0
    · rw [Nat.add_right_comm, Nat.pow_add]
      exact Nat.mul_lt_mul_of_pos_right h1 hp
  have hne : m * 2 ^ e ≠ 0 := Nat.mul_ne_zero (by omega) (by omega)
  unfold Ieee.Format.nearest
  rw [if_neg hne, hl]
  simp only [e_frac, e_least, e_bin, e_inf, cut_even]
  have a1 : max ((0 : Int) + ((52 + e : Nat) : Int) - (52 : Nat)) (-1074) = (e : Int) := by omega
  have a2 : ((0 : Int) - (e : Int)).toNat = 0 := by omega
  have a3 : ((e : Int) - 0).toNat = e := by omega
  have a4 : rne (m * 2 ^ e) e = m := by
    unfold rne
    rw [Nat.mul_mod_left, Nat.mul_div_cancel _ hp]
    have b2 : (2 ^ e == 2 * 0) = false := by simp
    simp [b2]
  rw [a1, a2, a3, Nat.shiftLeft_zero, a4]
  congr 1
  omega
end Go.Proofs.Ytlcfcdpgggocnaa
