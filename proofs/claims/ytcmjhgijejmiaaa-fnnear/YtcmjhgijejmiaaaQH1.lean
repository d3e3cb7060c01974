/- What the model's Unpack gives at a Double, by what its word stands for. -/
import Derived.Test.YtcmjhgijejmiaaaQU2
import Derived.Test.YtcmjhgijejmiaaaQG0
namespace Go.Proofs.Ytcmjhgijejmiaaa.Q
open Go.RowKit

theorem dbl : Frm 3 64 53 1023 9223372036854775808 18446744073709551616 4503599627370496 2048 := Or.inr (Or.inr ⟨rfl, rfl, rfl, rfl, rfl, rfl, rfl, rfl⟩)

theorem word_sign (s : Bool) {k : Nat} (h : k < 9223372036854775808) : ((Ieee.double.word s k : Nat) : Int) / 9223372036854775808 = (if s then 1 else 0) ∧ Ieee.double.word s k < 18446744073709551616 := by
  unfold Ieee.Format.word
  rw [e_sign]
  cases s
  · rw [if_neg (by decide), if_neg (by decide)]; omega
  · rw [if_pos rfl, if_pos rfl]; omega

theorem word_low (s : Bool) (k : Nat) : Ieee.double.word s k % 9223372036854775808 = k % 9223372036854775808 := by
  unfold Ieee.Format.word
  rw [e_sign]
  cases s
  · rw [if_neg (by decide)]
  · rw [if_pos rfl]; omega

theorem sgn_eq (s : Bool) {x : Int} (h : x / 9223372036854775808 = (if s then 1 else 0)) : (x / 9223372036854775808 == 1) = s := by
  rw [h]; cases s <;> rfl

theorem unp_inf (s : Bool) (w : World) : Calls Try.prog 23 #[.int .i64 3, .int .u64 (Ieee.double.word s 9218868437227405312 : Nat)] w fun e w' => e = .returned (.agg #[.int .i64 2, .bool s, .int .i64 0, .int .u64 0]) ∧ Below w.heap.size w w' := by
  obtain ⟨h1, h2⟩ := word_sign s (show 9218868437227405312 < 9223372036854775808 by decide)
  have h3 := word_low s 9218868437227405312
  have := sunpack_inf dbl (Ieee.double.word s 9218868437227405312 : Nat) w (by omega) (by omega) (by omega) (by simp; omega)
  rw [sgn_eq s h1] at this
  exact this

theorem unp_zero (s : Bool) (w : World) : Calls Try.prog 23 #[.int .i64 3, .int .u64 (Ieee.double.word s 0 : Nat)] w fun e w' => e = .returned (.agg #[.int .i64 0, .bool s, .int .i64 0, .int .u64 0]) ∧ Below w.heap.size w w' := by
  obtain ⟨h1, h2⟩ := word_sign s (show 0 < 9223372036854775808 by decide)
  have h3 := word_low s 0
  have := sunpack_zero dbl (Ieee.double.word s 0 : Nat) w (by omega) (by omega) (by omega) (by simp; omega)
  rw [sgn_eq s h1] at this
  exact this

theorem unp_nan {x : Nat} (hx : x < 18446744073709551616) (h : (Ieee.double.read x).isNaN = true) (w : World) : Calls Try.prog 23 #[.int .i64 3, .int .u64 (x : Nat)] w fun e w' => e = .returned (.agg #[.int .i64 3, .bool false, .int .i64 0, .int .u64 0]) ∧ Below w.heap.size w w' := by
  have h1 : 9218868437227405312 < x % 9223372036854775808 := by
    unfold Ieee.Format.read at h
    simp only [e_sign, e_bin, e_inf, e_least] at h
    split at h
    · cases h
    · split at h
      · cases h
      · split at h
        · cases h
        · omega
  exact sunpack_nan dbl (x : Nat) w (by omega) (by omega) (by omega) (by simp; omega)

/-- A finite number that is not 0: an odd number times a power of two. -/
theorem unp_fin {x : Nat} (hx : x < 18446744073709551616) {s : Bool} {m : Nat} {p : Int} (h : Ieee.double.read x = .number s m p) (h0 : m ≠ 0) (w : World) :
    Calls Try.prog 23 #[.int .i64 3, .int .u64 (x : Nat)] w fun e w' => ∃ k M : Nat, M * 2 ^ k = m ∧ e = .returned (.agg #[.int .i64 1, .bool s, .int .i64 (p + k), .int .u64 (M : Nat)]) ∧ Below w.heap.size w w' := by
  have conv : ∀ (v man : Int) (k : Nat), Tz v man k → v = (m : Int) → ∃ M : Nat, man = (M : Int) ∧ M * 2 ^ k = m := by
    intro v man k ht hv
    have h1 := ht.pos
    obtain ⟨M, rfl⟩ := Int.eq_ofNat_of_zero_le (show 0 ≤ man by omega)
    refine ⟨M, rfl, ?_⟩
    have h2 := ht.eq
    rw [hv, ← Int.natCast_mul] at h2
    exact (Int.ofNat.inj h2).symm
  rcases read_cases x hx with h1 | ⟨s1, h1, _⟩ | ⟨s1, h1, hw⟩ | ⟨s1, m1, d, hd, hd1, g0, g2, g3, h1, hw⟩ | ⟨s1, m1, e, he, g0, g2, h1, hw⟩
  · rw [h] at h1; cases h1
  · rw [h] at h1; cases h1
  · rw [h] at h1
    cases h1
    exact absurd rfl h0
  · rw [h] at h1
    cases h1
    obtain ⟨s1, s2⟩ := word_sign s (show (1074 - d) * 4503599627370496 + m < 9223372036854775808 by omega)
    have s3 := word_low s ((1074 - d) * 4503599627370496 + m)
    rw [← hw] at s1 s2 s3
    by_cases c : 4503599627370496 ≤ m
    · have hX : (x : Int) / 4503599627370496 % 2048 = 1075 - d := by omega
      have hm : (x : Int) % 4503599627370496 + 4503599627370496 = m := by omega
      refine (sunpack_norm dbl (x : Nat) w (by omega) (by omega) (by omega) (by omega)).mono ?_
      rintro e w' ⟨k, man, ht, _, rfl, hb⟩
      obtain ⟨M, rfl, hM⟩ := conv _ _ _ ht hm
      refine ⟨k, M, hM, ?_, hb⟩
      rw [sgn_eq s s1, hX, show (1075 : Int) - d - 1023 - 53 + 1 + k = -(d : Int) + k by omega]
    · have hX : (x : Int) / 4503599627370496 % 2048 = 0 := by omega
      have hm : (x : Int) % 4503599627370496 = m := by omega
      refine (sunpack_low dbl (x : Nat) w (by omega) (by omega) hX (by simp; omega)).mono ?_
      rintro e w' ⟨k, man, ht, _, rfl, hb⟩
      obtain ⟨M, rfl, hM⟩ := conv _ _ _ ht hm
      refine ⟨k, M, hM, ?_, hb⟩
      rw [sgn_eq s s1, show (2 : Int) - 1023 - 53 + k = -(d : Int) + k by omega]
  · rw [h] at h1
    cases h1
    obtain ⟨s1, s2⟩ := word_sign s (show (1074 + e) * 4503599627370496 + m < 9223372036854775808 by omega)
    have s3 := word_low s ((1074 + e) * 4503599627370496 + m)
    rw [← hw] at s1 s2 s3
    have hX : (x : Int) / 4503599627370496 % 2048 = 1075 + e := by omega
    have hm : (x : Int) % 4503599627370496 + 4503599627370496 = m := by omega
    refine (sunpack_norm dbl (x : Nat) w (by omega) (by omega) (by omega) (by omega)).mono ?_
    rintro e' w' ⟨k, man, ht, _, rfl, hb⟩
    obtain ⟨M, rfl, hM⟩ := conv _ _ _ ht hm
    refine ⟨k, M, hM, ?_, hb⟩
    rw [sgn_eq s s1, hX, show (1075 : Int) + e - 1023 - 53 + 1 + k = (e : Int) + k by omega]
end Go.Proofs.Ytcmjhgijejmiaaa.Q
