/- How floats stand to each other is told by their bits. -/
import Derived.Test.YtogamhaafcoemaaH5
import Derived.Test.YtogamhaafcoemaaW4
namespace Go.Proofs.Ytogamhaafcoemaa

/-- What a rung stands for, in steps of 2 ^ -1074. -/
def rv (k : Nat) : Nat := if k < 4503599627370496 then k else (4503599627370496 + k % 4503599627370496) * 2 ^ (k / 4503599627370496 - 1)

theorem rv_step (k : Nat) : rv k < rv (k + 1) := by
  unfold rv
  by_cases h1 : k + 1 < 4503599627370496
  · rw [if_pos (by omega), if_pos h1]; omega
  · rw [if_neg h1]
    by_cases h2 : k < 4503599627370496
    · rw [if_pos h2]
      have e1 : (k + 1) % 4503599627370496 = 0 := by omega
      have e2 : (k + 1) / 4503599627370496 - 1 = 0 := by omega
      rw [e1, e2]; omega
    · rw [if_neg h2]
      by_cases h3 : (k + 1) % 4503599627370496 = 0
      · have e1 : k % 4503599627370496 = 4503599627370495 := by omega
        have e2 : (k + 1) / 4503599627370496 - 1 = (k / 4503599627370496 - 1) + 1 := by omega
        rw [h3, e1, e2, Nat.pow_succ]
        have := Nat.two_pow_pos (k / 4503599627370496 - 1)
        omega
      · have e1 : (k + 1) % 4503599627370496 = k % 4503599627370496 + 1 := by omega
        have e2 : (k + 1) / 4503599627370496 = k / 4503599627370496 := by omega
        rw [e1, e2]
        exact Nat.mul_lt_mul_of_pos_right (by omega) (Nat.two_pow_pos _)

theorem rv_lt {a b : Nat} (h : a < b) : rv a < rv b := by
  induction b with
  | zero => omega
  | succ b ih =>
    by_cases h1 : a = b
    · subst h1; exact rv_step a
    · exact Nat.lt_trans (ih (by omega)) (rv_step b)

/-- The sign and the rung of a word, as one number. -/
def sv (x : Nat) : Int := if x < 9223372036854775808 then (x : Int) else -((x - 9223372036854775808 : Nat) : Int)

theorem read_val {x : Nat} (hx : x < 18446744073709551616) (h : x % 9223372036854775808 < 9218868437227405312) :
    ∃ (m : Nat) (p : Int), Ieee.double.read x = .number (decide (9223372036854775808 ≤ x)) m p ∧ -1074 ≤ p ∧ m * 2 ^ (p + 1074).toNat = rv (x % 9223372036854775808) := by
  have hs : (x / 9223372036854775808 % 2 == 1) = decide (9223372036854775808 ≤ x) := by
    by_cases c : 9223372036854775808 ≤ x
    · rw [decide_eq_true c, show x / 9223372036854775808 = 1 by omega]; rfl
    · rw [decide_eq_false c, show x / 9223372036854775808 = 0 by omega]; rfl
  unfold Ieee.Format.read
  simp only [e_sign, e_bin, e_inf, e_least]
  rw [hs]
  generalize x % 9223372036854775808 = k at *
  unfold rv
  by_cases c : k < 4503599627370496
  · rw [if_pos c, if_pos c]
    exact ⟨k, -1074, rfl, by omega, by simp⟩
  · rw [if_neg c, if_pos h, if_neg c]
    refine ⟨_, _, rfl, by omega, ?_⟩
    congr 2
    omega

/-- A sign and a size. -/
def sg (s : Bool) (a : Nat) : Int := if s then -(a : Int) else (a : Int)

theorem sv_sg (x : Nat) : sv x = sg (decide (9223372036854775808 ≤ x)) (if x < 9223372036854775808 then x else x - 9223372036854775808) := by
  unfold sv sg
  by_cases h : x < 9223372036854775808
  · rw [if_pos h, if_pos h, decide_eq_false (by omega)]; simp
  · rw [if_neg h, if_neg h, decide_eq_true (by omega)]; simp

theorem sg_signed (s : Bool) (m a b : Nat) : Ieee.signed s m a * ((2 ^ b : Nat) : Int) = sg s (m * 2 ^ (a + b)) := by
  unfold Ieee.signed sg
  rw [Nat.shiftLeft_eq, Nat.pow_add, ← Nat.mul_assoc]
  cases s
  · rw [if_neg (by decide), if_neg (by decide)]
    exact (Int.natCast_mul _ _).symm
  · rw [if_pos rfl, if_pos rfl, Int.neg_mul]
    exact congrArg Neg.neg (Int.natCast_mul _ _).symm

theorem icmp_mul (A B c : Int) (hc : 0 < c) : compare (A * c) (B * c) = compare A B := by
  rcases Int.lt_trichotomy A B with h | h | h
  · rw [icmp_lt h, icmp_lt (Int.mul_lt_mul_of_pos_right h hc)]
  · subst h; rw [icmp_eq rfl, icmp_eq rfl]
  · rw [icmp_gt h, icmp_gt (Int.mul_lt_mul_of_pos_right h hc)]

theorem sg_mono (s t : Bool) (a b : Nat) : compare (sg s (rv a)) (sg t (rv b)) = compare (sg s a) (sg t b) := by
  have r0 : rv 0 = 0 := by decide
  have pa : 0 < a → 0 < rv a := fun h => by have := rv_lt h; omega
  have pb : 0 < b → 0 < rv b := fun h => by have := rv_lt h; omega
  have za : a = 0 → rv a = 0 := fun h => by rw [h]; exact r0
  have zb : b = 0 → rv b = 0 := fun h => by rw [h]; exact r0
  unfold sg
  cases s <;> cases t <;> simp only [Bool.false_eq_true, if_false, if_true]
  · rcases Nat.lt_trichotomy a b with h | h | h
    · have := rv_lt h; rw [icmp_lt (by omega), icmp_lt (by omega)]
    · subst h; rw [icmp_eq rfl, icmp_eq rfl]
    · have := rv_lt h; rw [icmp_gt (by omega), icmp_gt (by omega)]
  · by_cases h : a = 0 ∧ b = 0
    · rw [icmp_eq (by have := za h.1; have := zb h.2; omega), icmp_eq (by omega)]
    · have : 0 < rv a ∨ 0 < rv b := by
        by_cases h1 : 0 < a
        · exact Or.inl (pa h1)
        · exact Or.inr (pb (by omega))
      rw [icmp_gt (by omega), icmp_gt (by omega)]
  · by_cases h : a = 0 ∧ b = 0
    · rw [icmp_eq (by have := za h.1; have := zb h.2; omega), icmp_eq (by omega)]
    · have : 0 < rv a ∨ 0 < rv b := by
        by_cases h1 : 0 < a
        · exact Or.inl (pa h1)
        · exact Or.inr (pb (by omega))
      rw [icmp_lt (by omega), icmp_lt (by omega)]
  · rcases Nat.lt_trichotomy a b with h | h | h
    · have := rv_lt h; rw [icmp_gt (by omega), icmp_gt (by omega)]
    · subst h; rw [icmp_eq rfl, icmp_eq rfl]
    · have := rv_lt h; rw [icmp_lt (by omega), icmp_lt (by omega)]

theorem rung_le {x : Nat} (nx : (Ieee.double.read x).isNaN = false) : x % 9223372036854775808 ≤ 9218868437227405312 := by
  unfold Ieee.Format.read at nx
  simp only [e_sign, e_bin, e_inf, e_least] at nx
  split at nx
  · omega
  · split at nx
    · omega
    · split at nx
      · omega
      · cases nx

theorem read_inf {x : Nat} (hx : x < 18446744073709551616) (h : x % 9223372036854775808 = 9218868437227405312) : Ieee.double.read x = .infinity (decide (9223372036854775808 ≤ x)) := by
  have hs : (x / 9223372036854775808 % 2 == 1) = decide (9223372036854775808 ≤ x) := by
    by_cases c : 9223372036854775808 ≤ x
    · rw [decide_eq_true c, show x / 9223372036854775808 = 1 by omega]; rfl
    · rw [decide_eq_false c, show x / 9223372036854775808 = 0 by omega]; rfl
  unfold Ieee.Format.read
  simp only [e_sign, e_bin, e_inf, e_least]
  rw [hs, h, if_neg (by decide), if_neg (by decide), if_pos rfl]

theorem low_mod {x : Nat} (hx : x < 18446744073709551616) : (if x < 9223372036854775808 then x else x - 9223372036854775808) = x % 9223372036854775808 := by
  split <;> omega

/-- Two numbers, not NaNs, stand to each other as their signed rungs. -/
theorem ord_sv {x y : Nat} (hx : x < 18446744073709551616) (hy : y < 18446744073709551616) (nx : (Ieee.double.read x).isNaN = false) (ny : (Ieee.double.read y).isNaN = false) :
    FloatKind.f64.format.order x y = some (compare (sv x) (sv y)) := by
  have lx := rung_le nx
  have ly := rung_le ny
  rw [order_def, sv_sg, sv_sg, low_mod hx, low_mod hy]
  by_cases cx : x % 9223372036854775808 = 9218868437227405312
  · rw [read_inf hx cx, cx]
    by_cases cy : y % 9223372036854775808 = 9218868437227405312
    · rw [read_inf hy cy, cy]
      generalize decide (9223372036854775808 ≤ x) = s
      generalize decide (9223372036854775808 ≤ y) = t
      cases s <;> cases t <;> decide
    · obtain ⟨m, p, hr, _, _⟩ := read_val hy (by omega)
      rw [hr]
      generalize decide (9223372036854775808 ≤ x) = s
      generalize decide (9223372036854775808 ≤ y) = t
      simp only [Ieee.Datum.order]
      unfold sg
      cases s
      · rw [icmp_gt]; rfl
        cases t <;> simp <;> omega
      · rw [icmp_lt]; rfl
        cases t <;> simp <;> omega
  · obtain ⟨m, p, hr, hp, hv⟩ := read_val hx (by omega)
    by_cases cy : y % 9223372036854775808 = 9218868437227405312
    · rw [read_inf hy cy, cy, hr]
      generalize decide (9223372036854775808 ≤ x) = s
      generalize decide (9223372036854775808 ≤ y) = t
      simp only [Ieee.Datum.order]
      unfold sg
      cases t
      · rw [icmp_lt]; rfl
        cases s <;> simp <;> omega
      · rw [icmp_gt]; rfl
        cases s <;> simp <;> omega
    · obtain ⟨n, q, hr2, hq, hv2⟩ := read_val hy (by omega)
      rw [hr, hr2, ← sg_mono, ← hv, ← hv2]
      simp only [Ieee.Datum.order]
      rw [← icmp_mul _ _ ((2 ^ (min p q + 1074).toNat : Nat) : Int) (by have := Nat.two_pow_pos (min p q + 1074).toNat; omega), sg_signed, sg_signed]
      rw [show (p - min p q).toNat + (min p q + 1074).toNat = (p + 1074).toNat by omega, show (q - min p q).toNat + (min p q + 1074).toNat = (q + 1074).toNat by omega]
end Go.Proofs.Ytogamhaafcoemaa
