/- What is packed of a float's parts is the float's word. -/
import Derived.Test.YtcmjhgijejmiaaaQH5
import Derived.Test.YtcmjhgijejmiaaaQR2
namespace Go.Proofs.Ytcmjhgijejmiaaa.Q
open Go.RowKit

/-- A word of a finite number that is not 0. -/
theorem read_fin {x : Nat} (hx : x < 18446744073709551616) (h1 : (Ieee.double.read x).isNaN = false) (h2 : ∀ s, Ieee.double.read x ≠ .infinity s) (h3 : ∀ s p, Ieee.double.read x ≠ .number s 0 p) :
    ∃ (s : Bool) (m : Nat) (p : Int), m ≠ 0 ∧ m < 9007199254740992 ∧ -1074 ≤ p ∧ p ≤ 971 ∧ (4503599627370496 ≤ m ∨ p = -1074) ∧ Ieee.double.read x = .number s m p ∧ x = Ieee.double.word s ((p + 1074).toNat * 4503599627370496 + m) := by
  rcases read_cases x hx with h | ⟨s, h, _⟩ | ⟨s, h, _⟩ | ⟨s, m, d, a1, a2, a3, a4, a5, a6, a7⟩ | ⟨s, m, e, a1, a2, a3, a4, a5⟩
  · rw [h] at h1; cases h1
  · exact absurd h (h2 s)
  · exact absurd h (h3 s _)
  · refine ⟨s, m, _, by omega, a4, by omega, by omega, ?_, a6, ?_⟩
    · rcases a5 with a5 | a5
      · exact Or.inl a5
      · exact Or.inr (by omega)
    · rw [show (-(d : Int) + 1074).toNat = 1074 - d by omega]; exact a7
  · refine ⟨s, m, _, by omega, a3, by omega, by omega, Or.inl a2, a4, ?_⟩
    rw [show ((e : Int) + 1074).toNat = 1074 + e by omega]; exact a5

theorem read_flip {s : Bool} (s' : Bool) {k m : Nat} {p : Int} (hk : k < 9223372036854775808) (h : Ieee.double.read (Ieee.double.word s k) = .number s m p) : Ieee.double.read (Ieee.double.word s' k) = .number s' m p := by
  unfold Ieee.Format.read Ieee.Format.word at *
  simp only [e_sign, e_bin, e_inf, e_least] at *
  rw [sign_mod s hk, sign_div s hk] at h
  rw [sign_mod s' hk, sign_div s' hk]
  split
  · rename_i c
    rw [if_pos c] at h
    cases h; rfl
  · rename_i c
    rw [if_neg c] at h
    split
    · rename_i c2
      rw [if_pos c2] at h
      cases h; rfl
    · rename_i c2
      rw [if_neg c2] at h
      split at h <;> cases h

theorem word_val (s : Bool) (k : Nat) : ((Ieee.double.word s k : Nat) : Int) = (k : Int) + (if s then 9223372036854775808 else 0) := by
  unfold Ieee.Format.word
  rw [e_sign]
  cases s
  · rw [if_neg (by decide), if_neg (by decide)]; omega
  · rw [if_pos rfl, if_pos rfl]; omega

/-- What is packed of the parts. -/
theorem rnd_back (s : Bool) {m t : Nat} {p : Int} (h0 : m ≠ 0) (h1 : m < 9007199254740992) (h2 : -1074 ≤ p) (h3 : p ≤ 971) (h4 : 4503599627370496 ≤ m ∨ p = -1074) (ht : t + m.log2 = 52) :
    rndV 53 1023 4503599627370496 9223372036854775808 3 (p - t) s (m * 2 ^ t) false = ((Ieee.double.word s ((p + 1074).toNat * 4503599627370496 + m) : Nat) : Int) := by
  rw [word_val]
  obtain ⟨b0, b1⟩ := pow_bounds h0 t
  rw [show m.log2 + t = 52 by omega] at b0
  rw [show m.log2 + 1 + t = 53 by omega] at b1
  have hb : blen (m * 2 ^ t) = 53 := blen_at b0 b1
  have hup : ∀ (a b : Bool) (c : Int) (d : Bool), upOf 3 a b c d = false := fun _ _ _ _ => rfl
  have hz : zOf 53 1023 4503599627370496 3 (p - t) s (m * 2 ^ t) false = (((p + 1074).toNat * 4503599627370496 + m : Nat) : Int) := by
    unfold zOf kOf
    rw [hup]
    by_cases c : -1074 ≤ p - (t : Int)
    · have hu : uOf 53 1023 (p - t) (m * 2 ^ t) = p - t := by
        unfold uOf
        rw [hb, if_neg (by omega)]
        omega
      rw [hu, Int.sub_self]
      have hm : mOf (m * 2 ^ t) 0 = m * 2 ^ t := by simp [mOf]
      rw [hm]
      have ht0 : t = 0 := by
        rcases h4 with h4 | h4
        · have : m.log2 = 52 := log2_eq (by omega) (by omega)
          omega
        · omega
      subst ht0
      rw [Nat.pow_zero, Nat.mul_one]
      simp only [Bool.false_eq_true, if_false]
      omega
    · have hp : p = -1074 := by
        rcases h4 with h4 | h4
        · exfalso
          have : m.log2 = 52 := log2_eq (by omega) (by omega)
          omega
        · exact h4
      subst hp
      have hu : uOf 53 1023 (-1074 - (t : Int)) (m * 2 ^ t) = -1074 := by
        unfold uOf
        rw [hb, if_pos (by omega)]
        rfl
      rw [hu]
      have hm : mOf (m * 2 ^ t) (-1074 - (-1074 - (t : Int))) = m := by
        unfold mOf
        rw [if_neg (by omega), show ((-1074 : Int) - (-1074 - (t : Int))).toNat = t by omega, Nat.mul_div_cancel _ (Nat.two_pow_pos t)]
      rw [hm]
      simp only [Bool.false_eq_true, if_false]
      omega
  unfold rndV
  rw [hz, if_neg (by omega)]
end Go.Proofs.Ytcmjhgijejmiaaa.Q
