/- Floats held against numbers, and made whole numbers. -/
import Derived.Test.YtcmjhgijejmiaaaQG0
namespace Go.Proofs.Ytcmjhgijejmiaaa.Q

theorem order_def (x y : Nat) : FloatKind.f64.format.order x y = (Ieee.double.read x).order (Ieee.double.read y) := rfl
theorem icmp_lt {a b : Int} (h : a < b) : compare a b = .lt := by rw [Int.compare_eq_ite_lt, if_pos h]
theorem icmp_gt {a b : Int} (h : b < a) : compare a b = .gt := by rw [Int.compare_eq_ite_lt, if_neg (by omega), if_pos h]
theorem icmp_eq {a b : Int} (h : a = b) : compare a b = .eq := by rw [Int.compare_eq_ite_lt, if_neg (by omega), if_neg (by omega)]

theorem icmp_scale (a b u : Nat) : compare (((a * 2 ^ u : Nat) : Int)) ((b * 2 ^ u : Nat) : Int) = compare (a : Int) (b : Int) := by
  have hp : 0 < 2 ^ u := Nat.two_pow_pos u
  rcases Nat.lt_trichotomy a b with h | h | h
  · rw [icmp_lt (show (a : Int) < b by omega), icmp_lt]
    have := Nat.mul_lt_mul_of_pos_right h hp
    omega
  · subst h; rw [icmp_eq rfl, icmp_eq rfl]
  · rw [icmp_gt (show (b : Int) < a by omega), icmp_gt]
    have := Nat.mul_lt_mul_of_pos_right h hp
    omega

/-- Two numbers held against each other at any place below both. -/
theorem ord_at (a b : Nat) (i k base : Int) (h1 : base ≤ i) (h2 : base ≤ k) :
    (Ieee.Datum.number false a i).order (.number false b k) = some (compare ((a * 2 ^ (i - base).toNat : Nat) : Int) ((b * 2 ^ (k - base).toNat : Nat) : Int)) := by
  simp only [Ieee.Datum.order, Ieee.signed, Bool.false_eq_true, if_false, Nat.shiftLeft_eq]
  have e1 : (i - base).toNat = (i - min i k).toNat + (min i k - base).toNat := by omega
  have e2 : (k - base).toNat = (k - min i k).toNat + (min i k - base).toNat := by omega
  rw [e1, e2, Nat.pow_add, Nat.pow_add, ← Nat.mul_assoc, ← Nat.mul_assoc, icmp_scale]

/-- A float of the format held against another. -/
theorem ord_near {m : Nat} {q : Int} (h0 : m ≠ 0) (h1 : m < 9007199254740992) (h2 : -1074 ≤ q) (h3 : q + m.log2 ≤ 1023) {c b : Nat} {k : Int} (hc : Ieee.double.read c = .number false b k) (hk : -2000 ≤ k) :
    FloatKind.f64.format.order (Ieee.double.nearest false m q) c = some (compare ((m * 2 ^ (q + 2000).toNat : Nat) : Int) ((b * 2 ^ (k + 2000).toNat : Nat) : Int)) := by
  obtain ⟨j, hj, _, hr⟩ := read_nearest false m q h0 h1 h2 h3
  rw [order_def, hr, hc, ord_at _ _ _ _ (-2000) (by omega) (by omega), Nat.mul_assoc, ← Nat.pow_add]
  have e1 : j + (q - (j : Int) - -2000).toNat = (q + 2000).toNat := by omega
  have e2 : (k - -2000).toNat = (k + 2000).toNat := by omega
  rw [e1, e2]

theorem read_c2 : Ieee.double.read 4845873199050653696 = .number false 4503599627370496 1 := by decide +kernel
theorem read_0 : Ieee.double.read 0 = .number false 0 (-1074) := by decide +kernel

/-- m times 2 ^ a against 2 ^ b. -/
theorem pow_bounds {m : Nat} (h0 : m ≠ 0) (a : Nat) : 2 ^ (m.log2 + a) ≤ m * 2 ^ a ∧ m * 2 ^ a < 2 ^ (m.log2 + 1 + a) := by
  constructor
  · rw [Nat.pow_add]; exact Nat.mul_le_mul_right _ (Nat.log2_self_le h0)
  · rw [Nat.pow_add]; exact Nat.mul_lt_mul_of_pos_right Nat.lt_log2_self (Nat.two_pow_pos a)

theorem ord_pow {m : Nat} {q : Int} (h0 : m ≠ 0) (h1 : m < 9007199254740992) (h2 : -1074 ≤ q) (h3 : q + m.log2 ≤ 1023) {c : Nat} {k : Int} (hc : Ieee.double.read c = .number false 4503599627370496 k) (hk : -2000 ≤ k) :
    (q + m.log2 < 52 + k → FloatKind.f64.format.order (Ieee.double.nearest false m q) c = some .lt) ∧
    (52 + k ≤ q + m.log2 → FloatKind.f64.format.order (Ieee.double.nearest false m q) c = some .gt ∨ FloatKind.f64.format.order (Ieee.double.nearest false m q) c = some .eq) := by
  rw [ord_near h0 h1 h2 h3 hc hk]
  obtain ⟨p1, p2⟩ := pow_bounds h0 (q + 2000).toNat
  have e : 4503599627370496 * 2 ^ (k + 2000).toNat = 2 ^ (52 + (k + 2000).toNat) := by rw [Nat.pow_add]
  rw [e]
  constructor
  · intro h
    have : 2 ^ (m.log2 + 1 + (q + 2000).toNat) ≤ 2 ^ (52 + (k + 2000).toNat) := Nat.pow_le_pow_right (by decide) (by omega)
    rw [icmp_lt]
    exact Int.ofNat_lt.2 (Nat.lt_of_lt_of_le p2 this)
  · intro h
    have : 2 ^ (52 + (k + 2000).toNat) ≤ 2 ^ (m.log2 + (q + 2000).toNat) := Nat.pow_le_pow_right (by decide) (by omega)
    rcases Nat.lt_or_eq_of_le (Nat.le_trans this p1) with g | g
    · left; rw [icmp_gt]; exact Int.ofNat_lt.2 g
    · right; rw [icmp_eq]; exact congrArg Int.ofNat g.symm

theorem ord_53 {m : Nat} {q : Int} (h0 : m ≠ 0) (h1 : m < 9007199254740992) (h2 : -1074 ≤ q) (h3 : q + m.log2 ≤ 1023) :
    (q + m.log2 < 53 → FloatKind.f64.format.order (Ieee.double.nearest false m q) 4845873199050653696 = some .lt) ∧
    (53 ≤ q + m.log2 → FloatKind.f64.format.order (Ieee.double.nearest false m q) 4845873199050653696 = some .gt ∨ FloatKind.f64.format.order (Ieee.double.nearest false m q) 4845873199050653696 = some .eq) :=
  ord_pow h0 h1 h2 h3 read_c2 (by decide)

theorem ord_52 {m : Nat} {q : Int} (h0 : m ≠ 0) (h1 : m < 9007199254740992) (h2 : -1074 ≤ q) (h3 : q + m.log2 ≤ 1023) :
    (q + m.log2 < 52 → FloatKind.f64.format.order (Ieee.double.nearest false m q) 4841369599423283200 = some .lt) ∧
    (52 ≤ q + m.log2 → FloatKind.f64.format.order (Ieee.double.nearest false m q) 4841369599423283200 = some .gt ∨ FloatKind.f64.format.order (Ieee.double.nearest false m q) 4841369599423283200 = some .eq) :=
  ord_pow h0 h1 h2 h3 read_c (by decide)

theorem ord_zero {m : Nat} {q : Int} (h0 : m ≠ 0) (h1 : m < 9007199254740992) (h2 : -1074 ≤ q) (h3 : q + m.log2 ≤ 1023) :
    FloatKind.f64.format.order (Ieee.double.nearest false m q) 0 = some .gt := by
  rw [ord_near h0 h1 h2 h3 read_0 (by decide), icmp_gt]
  rw [Nat.zero_mul]
  have := Nat.mul_pos (show 0 < m by omega) (Nat.two_pow_pos (q + 2000).toNat)
  omega

theorem rne_one_lt {m : Nat} (h : m ≠ 0) : rne m 1 < m := by
  unfold rne
  by_cases h1 : m = 1
  · subst h1; decide
  · by_cases h2 : m = 2
    · subst h2; decide
    · have : (decide (2 ^ 1 < 2 * (m % 2 ^ 1)) || (2 ^ 1 == 2 * (m % 2 ^ 1) && m / 2 ^ 1 % 2 == 1)).toNat ≤ 1 := Bool.toNat_le _
      omega

/-- A half is less than the whole. -/
theorem ord_half {x m : Nat} {q : Int} (h0 : m ≠ 0) (h1 : m < 9007199254740992) (h2 : -1074 ≤ q) (h3 : q + m.log2 ≤ 1023) (hx : Ieee.double.read x = .number false m q) :
    FloatKind.f64.format.order (Ieee.double.nearest false m (q - 1)) x = some .lt := by
  by_cases c : -1074 ≤ q - 1
  · rw [ord_near h0 h1 c (by omega) hx (by omega), icmp_lt]
    have e : (q + 2000).toNat = (q - 1 + 2000).toNat + 1 := by omega
    rw [e, Nat.pow_succ]
    have := Nat.mul_pos (show 0 < m by omega) (Nat.two_pow_pos (q - 1 + 2000).toNat)
    rw [← Nat.mul_assoc]
    omega
  · obtain rfl : q = -1074 := by omega
    have hL : m.log2 ≤ 52 := by
      have := (Nat.log2_lt h0).2 (show m < 2 ^ 53 by omega)
      omega
    have hr := rne_one_lt h0
    have hw : Ieee.double.nearest false m (-1074 - 1) = Ieee.double.word false (rne m 1) := by
      unfold Ieee.Format.nearest
      rw [if_neg h0]
      simp only [e_frac, e_least, e_bin, e_inf, cut_even]
      have a1 : max ((-1074 : Int) - 1 + (m.log2 : Int) - (52 : Nat)) (-1074) = -1074 := by omega
      rw [a1]
      have a2 : ((-1074 : Int) - 1 - -1074).toNat = 0 := by decide
      have a3 : ((-1074 : Int) - (-1074 - 1)).toNat = 1 := by decide
      have a4 : ((-1074 : Int) - -1074).toNat = 0 := by decide
      rw [a2, a3, a4, Nat.shiftLeft_zero, Nat.zero_mul, Nat.zero_add, Nat.min_eq_left (by omega)]
    rw [hw, order_def, hx]
    generalize rne m 1 = r at *
    by_cases c2 : r < 4503599627370496
    · rw [read_low false r c2, ord_at _ _ _ _ (-1074) (by omega) (by omega), icmp_lt]
      have e : ((-1074 : Int) - -1074).toNat = 0 := by decide
      rw [e, Nat.pow_zero, Nat.mul_one, Nat.mul_one]
      omega
    · have := read_rung false 0 r (by omega) (by omega) (by omega)
      rw [Nat.zero_mul, Nat.zero_add] at this
      rw [this, ord_at _ _ _ _ (-1074) (by omega) (by omega), icmp_lt]
      have e : ((-1074 : Int) - -1074).toNat = 0 := by decide
      have e' : ((-1074 : Int) + (0 : Nat) - -1074).toNat = 0 := by decide
      rw [e, e', Nat.pow_zero, Nat.mul_one, Nat.mul_one]
      omega

/-- A whole float as a whole number. -/
theorem to_whole {m t : Nat} (h0 : m ≠ 0) (h1 : m < 9007199254740992) (h2 : 4503599627370496 ≤ m * 2 ^ t) (h3 : m * 2 ^ t < 9007199254740992) (h4 : (t : Int) + m.log2 ≤ 1023) :
    floatToIntVal .f64 (Ieee.double.nearest false m t) .u64 = some ((m * 2 ^ t : Nat) : Int) := by
  obtain ⟨j, hj, hlt, hr⟩ := read_nearest false m t h0 h1 (by omega) h4
  have hjt : j ≤ t := by
    by_cases c : j ≤ t
    · exact c
    · exfalso
      have : m * 2 ^ (t + 1) ≤ m * 2 ^ j := Nat.mul_le_mul_left _ (Nat.pow_le_pow_right (by decide) (by omega))
      rw [Nat.pow_succ, ← Nat.mul_assoc] at this
      omega
  have hd : (FloatKind.f64.decode (Ieee.double.nearest false m t)).toInt .zero = some ((m * 2 ^ t : Nat) : Int) := by
    show (Ieee.double.read (Ieee.double.nearest false m t)).toInt .zero = _
    rw [hr]
    simp only [Ieee.Datum.toInt, Ieee.Datum.integral]
    have a1 : ((t : Int) - (j : Int)).toNat = t - j := by omega
    have a2 : (-((t : Int) - (j : Int))).toNat = 0 := by omega
    rw [a1, a2, Nat.shiftLeft_eq, Nat.mul_assoc, ← Nat.pow_add, show j + (t - j) = t by omega]
    have a3 : Ieee.Toward.zero.cut false (m * 2 ^ t) 0 = m * 2 ^ t := by
      unfold Ieee.Toward.cut
      simp
    rw [a3]
    simp [Ieee.signed]
  unfold floatToIntVal
  rw [hd]
  simp only
  have b0 : IntKind.u64.min = 0 := by decide
  have b1 : IntKind.u64.max = 18446744073709551615 := by decide
  rw [b0, b1, if_pos (by omega)]
end Go.Proofs.Ytcmjhgijejmiaaa.Q
