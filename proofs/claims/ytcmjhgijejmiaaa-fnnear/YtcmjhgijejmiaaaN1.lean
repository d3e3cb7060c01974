/- Near: rounded again nothing changes; it is off by at most a half. -/
import Derived.Test.YtcmjhgijejmiaaaG2
import Derived.Test.YtcmjhgijejmiaaaG5
import Derived.Test.YtcmjhgijejmiaaaQH5
namespace Go.Proofs.Ytcmjhgijejmiaaa

theorem near_num {x m d : Nat} {s : Bool} (h : Ieee.double.read x = .number s m (-(d : Int))) : cnear x = some (Ieee.double.nearest s (rne m d) 0) := by
  have e1 : (-(d : Int)).toNat = 0 := by omega
  have e2 : (- -(d : Int)).toNat = d := by omega
  unfold cnear
  rw [h]
  simp only [Ieee.Datum.isNaN, Ieee.Datum.integral, Ieee.Format.write, e1, e2, Nat.shiftLeft_zero, cut_even]
  rfl

theorem rne_0 (d : Nat) : rne 0 d = 0 := by
  have := rne_le 0 d 0 (by omega)
  omega

/-- A number that is left as it is, or one below 2 ^ 53. -/
theorem near_cases (x : Nat) (hx : x < 18446744073709551616) : ((Ieee.double.read x).isNaN = true ∧ cnear x = none) ∨ ((Ieee.double.read x).isNaN = false ∧ cnear x = some x) ∨
    (∃ (s : Bool) (m d : Nat), 1 ≤ d ∧ d ≤ 1074 ∧ 0 < m ∧ m < 9007199254740992 ∧ Ieee.double.read x = .number s m (-(d : Int)) ∧ cnear x = some (Ieee.double.nearest s (rne m d) 0)) := by
  rcases read_cases x hx with h | ⟨s, h, hw⟩ | ⟨s, h, hw⟩ | ⟨s, m, d, hd, hd1, h0, h1, h2, h, hw⟩ | ⟨s, m, e, he, h0, h1, h, hw⟩
  · exact .inl ⟨h, by simp [cnear, h]⟩
  · refine .inr (.inl ⟨by rw [h]; rfl, ?_⟩)
    simp only [cnear, h]
    rw [hw]
    cases s <;> rfl
  · refine .inr (.inl ⟨by rw [h]; rfl, ?_⟩)
    have h' : Ieee.double.read x = .number s 0 (-((1074 : Nat) : Int)) := h
    rw [near_num h', rne_0, hw]
    rfl
  · exact .inr (.inr ⟨s, m, d, hd1, hd, h0, h1, h, near_num h⟩)
  · refine .inr (.inl ⟨by rw [h]; rfl, ?_⟩)
    have e1 : ((e : Int)).toNat = e := by omega
    have e2 : (-(e : Int)).toNat = 0 := by omega
    unfold cnear
    rw [h]
    simp only [Ieee.Datum.isNaN, Ieee.Datum.integral, Ieee.Format.write, e1, e2, cut_even, rne_zero]
    rw [nearest_great s m e he h0 h1, hw]
    rfl

theorem nearest_zero (s : Bool) (p : Int) : Ieee.double.nearest s 0 p = Ieee.double.word s 0 := by simp [Ieee.Format.nearest]

/-- What a whole number below 2 ^ 53 is read as. -/
theorem read_whole (s : Bool) (k : Nat) (hk : k < 9007199254740992) : ∃ j : Nat, j ≤ 1074 ∧ Ieee.double.read (Ieee.double.nearest s k 0) = .number s (k * 2 ^ j) (-(j : Int)) := by
  by_cases h : k = 0
  · subst h
    obtain ⟨J, hJ⟩ : ∃ J : Nat, J = 1074 := ⟨_, rfl⟩
    exact ⟨J, by omega, by rw [nearest_zero, read_low s 0 (by omega), Nat.zero_mul, hJ]; rfl⟩
  · have hl : k.log2 ≤ 52 := by
      have := (Nat.log2_lt h).2 (show k < 2 ^ 53 by omega)
      omega
    obtain ⟨j, hj, _, hr⟩ := read_nearest s k 0 h hk (by omega) (by omega)
    exact ⟨j, by omega, by rw [hr]; congr 1; omega⟩

/-- Rounded again nothing changes. -/
theorem near_again {x y : Nat} (hx : x < 18446744073709551616) (h : cn y = cnear x) : cnear y = cn y := by
  rcases near_cases x hx with ⟨_, hc⟩ | ⟨hn, hc⟩ | ⟨s, m, d, hd1, hd, h0, h1, hr, hc⟩
  · rw [hc] at h
    rw [h]
    have : (Ieee.double.read y).isNaN = true := by
      cases hh : (Ieee.double.read y).isNaN with
      | true => rfl
      | false => rw [cn_some hh] at h; cases h
    simp [cnear, this]
  · rw [hc] at h
    have : y = x := by
      unfold cn at h
      split at h
      · cases h
      · exact Option.some.inj h
    subst this
    rw [h, hc]
  · rw [hc] at h
    have e : y = Ieee.double.nearest s (rne m d) 0 := by
      unfold cn at h
      split at h
      · cases h
      · exact Option.some.inj h
    have hk : rne m d < 9007199254740992 := by
      have := rne_le m d m (Nat.le_mul_of_pos_right _ (Nat.two_pow_pos d))
      omega
    obtain ⟨j, _, hj⟩ := read_whole s (rne m d) hk
    rw [← e] at hj
    rw [near_num hj, h]
    have := rne_scale (rne m d) 0 j
    rw [Nat.zero_add, rne_zero] at this
    rw [this]

/-- Rounding is off by at most a half. -/
theorem rne_half (m d : Nat) : 2 * (rne m d * 2 ^ d) ≤ 2 * m + 2 ^ d ∧ 2 * m ≤ 2 * (rne m d * 2 ^ d) + 2 ^ d := by
  have hp : 0 < 2 ^ d := Nat.two_pow_pos d
  have h1 := Nat.div_add_mod m (2 ^ d)
  have h2 := Nat.mod_lt m hp
  unfold rne
  generalize hq : m / 2 ^ d = q at *
  generalize hr : m % 2 ^ d = r at *
  generalize 2 ^ d = D at *
  have e1 : (q + 1) * D = D * q + D := by rw [Nat.add_mul, Nat.one_mul, Nat.mul_comm]
  have e0 : q * D = D * q := Nat.mul_comm _ _
  by_cases c : (decide (D < 2 * r) || (D == 2 * r && q % 2 == 1)) = true
  · rw [c]
    simp only [Bool.toNat_true]
    rw [e1]
    have : D ≤ 2 * r := by
      simp at c
      omega
    omega
  · rw [Bool.not_eq_true] at c
    rw [c]
    simp only [Bool.toNat_false, Nat.add_zero]
    rw [e0]
    have : ¬ D < 2 * r := by
      simp at c
      omega
    omega

theorem read_half : Ieee.double.read 4602678819172646912 = .number false 4503599627370496 (-53) := by decide +kernel

/-- At most a half. -/
def Hf (u : Nat) : Prop := FloatKind.f64.format.order u 4602678819172646912 = some .lt ∨ FloatKind.f64.format.order u 4602678819172646912 = some .eq

theorem hf_of {t : Bool} {T d : Nat} (hd : d ≤ 1074) (hT : T < 9007199254740992) (h : 2 * T ≤ 2 ^ d) : Hf (Ieee.double.nearest t T (-(d : Int))) := by
  by_cases h0 : T = 0
  · subst h0
    rw [nearest_zero]
    left
    cases t <;> decide +kernel
  · have hl : T.log2 ≤ 52 := by
      have := (Nat.log2_lt h0).2 (show T < 2 ^ 53 by omega)
      omega
    cases t with
    | true =>
      obtain ⟨j, hj, _, hr⟩ := read_nearest true T (-(d : Int)) h0 hT (by omega) (by omega)
      left
      rw [order_def, hr, read_half]
      simp only [Ieee.Datum.order]
      rw [cmp_lt]
      simp only [Ieee.signed, Nat.shiftLeft_eq, if_true, Bool.false_eq_true, if_false]
      have p1 : 0 < 4503599627370496 * 2 ^ ((-53 : Int) - min (-(d : Int) - (j : Int)) (-53)).toNat := Nat.mul_pos (by decide) (Nat.two_pow_pos _)
      omega
    | false =>
      unfold Hf
      rw [Q.ord_near h0 hT (by omega) (by omega) read_half (by omega)]
      have e1 : ((-(d : Int)) + 2000).toNat = 2000 - d := by omega
      obtain ⟨K, e2, hK⟩ : ∃ K : Nat, ((-53 : Int) + 2000).toNat = K ∧ K = 1947 := ⟨_, rfl, by omega⟩
      rw [e1, e2]
      have e3 : (4503599627370496 : Nat) * 2 ^ K = 2 ^ (52 + K) := by
        rw [Nat.pow_add]
      have e4 : 2 ^ d * 2 ^ (2000 - d) = 2 * 2 ^ (52 + K) := by
        rw [← Nat.pow_add, show d + (2000 - d) = 52 + K + 1 by omega, Nat.pow_succ, Nat.mul_comm]
      have e5 : 2 * T * 2 ^ (2000 - d) ≤ 2 ^ d * 2 ^ (2000 - d) := Nat.mul_le_mul_right _ h
      rw [Nat.mul_assoc, e4] at e5
      rw [e3]
      generalize T * 2 ^ (2000 - d) = A at *
      generalize 2 ^ (52 + K) = B at *
      by_cases c : A = B
      · right
        rw [c, Q.icmp_eq rfl]
      · left
        rw [Q.icmp_lt (by omega)]

theorem sum_opp (s : Bool) (A B i k D : Nat) (hD : D = max i k) :
    ∃ sg, (Ieee.Datum.number s A (-(i : Int))).sum (.number (!s) B (-(k : Int))) = some (.number sg (((A * 2 ^ (D - i) : Nat) : Int) - ((B * 2 ^ (D - k) : Nat) : Int)).natAbs (-(D : Int))) := by
  have e1 : min (-(i : Int)) (-(k : Int)) = -(D : Int) := by omega
  have e2 : (-(i : Int) - -(D : Int)).toNat = D - i := by omega
  have e3 : (-(k : Int) - -(D : Int)).toNat = D - k := by omega
  have ht : (Ieee.signed s A (D - i) + Ieee.signed (!s) B (D - k)).natAbs = (((A * 2 ^ (D - i) : Nat) : Int) - ((B * 2 ^ (D - k) : Nat) : Int)).natAbs := by
    cases s
    · simp only [Ieee.signed, Bool.not_false, Bool.false_eq_true, if_false, if_true, Nat.shiftLeft_eq]
      omega
    · simp only [Ieee.signed, Bool.not_true, Bool.false_eq_true, if_false, if_true, Nat.shiftLeft_eq]
      omega
  refine ⟨(if Ieee.signed s A (D - i) + Ieee.signed (!s) B (D - k) = 0 then s && !s else decide (Ieee.signed s A (D - i) + Ieee.signed (!s) B (D - k) < 0)), ?_⟩
  simp only [Ieee.Datum.sum]
  rw [e1, e2, e3, ht]

theorem abs_scale (a b P : Nat) : (((a * P : Nat) : Int) - ((b * P : Nat) : Int)).natAbs = (if b ≤ a then a - b else b - a) * P := by
  by_cases h : b ≤ a
  · rw [if_pos h, Nat.sub_mul]
    have := Nat.mul_le_mul_right P h
    omega
  · rw [if_neg h, Nat.sub_mul]
    have := Nat.mul_le_mul_right P (show a ≤ b by omega)
    omega

/-- What x and Near of x differ by is at most a half, either way. -/
theorem near_diff {x y m d : Nat} {s : Bool} (hd : d ≤ 1074) (h1 : m < 9007199254740992) (hx : Ieee.double.read x = .number s m (-(d : Int))) (hy : y = Ieee.double.nearest s (rne m d) 0) :
    (∃ u, floatBits .sub .f64 y x = some u ∧ Hf u) ∧ (∃ u, floatBits .sub .f64 x y = some u ∧ Hf u) := by
  have hk : rne m d < 9007199254740992 := by
    have := rne_le m d m (Nat.le_mul_of_pos_right _ (Nat.two_pow_pos d))
    omega
  obtain ⟨j, hj, hr⟩ := read_whole s (rne m d) hk
  rw [← hy] at hr
  have hh := rne_half m d
  have hp : 0 < 2 ^ d := Nat.two_pow_pos d
  obtain ⟨D, hD⟩ : ∃ D, D = max j d := ⟨_, rfl⟩
  have e1 : rne m d * 2 ^ j * 2 ^ (D - j) = rne m d * 2 ^ d * 2 ^ (D - d) := by
    rw [Nat.mul_assoc, Nat.mul_assoc, ← Nat.pow_add, ← Nat.pow_add, show j + (D - j) = d + (D - d) by omega]
  have e2 : -(D : Int) = -(d : Int) - ((D - d : Nat) : Int) := by omega
  have key : ∀ a b, (a = rne m d * 2 ^ d ∧ b = m) ∨ (a = m ∧ b = rne m d * 2 ^ d) → (if b ≤ a then a - b else b - a) < 9007199254740992 ∧ 2 * (if b ≤ a then a - b else b - a) ≤ 2 ^ d := by
    intro a b hab
    have hb : (if b ≤ a then a - b else b - a) = (if m ≤ rne m d * 2 ^ d then rne m d * 2 ^ d - m else m - rne m d * 2 ^ d) := by
      rcases hab with ⟨rfl, rfl⟩ | ⟨rfl, rfl⟩
      · rfl
      · split <;> split <;> omega
    rw [hb]
    by_cases h0 : rne m d = 0
    · rw [h0, Nat.zero_mul] at hh ⊢
      split <;> omega
    · have h2 : 1 * 2 ^ d ≤ rne m d * 2 ^ d := Nat.mul_le_mul_right _ (by omega)
      split <;> omega
  refine ⟨?_, ?_⟩
  · obtain ⟨sg, hs⟩ := sum_opp s (rne m d * 2 ^ j) m j d D hD
    refine ⟨Ieee.double.nearest sg (if m ≤ rne m d * 2 ^ d then rne m d * 2 ^ d - m else m - rne m d * 2 ^ d) (-(d : Int)), ?_, ?_⟩
    · show ((Ieee.double.read y).sum (Ieee.double.read x).opposite).map Ieee.double.write = _
      rw [hr, hx]
      simp only [Ieee.Datum.opposite]
      rw [hs, e1, abs_scale, e2]
      simp only [Option.map_some, Ieee.Format.write, nearest_scale]
    · obtain ⟨k1, k2⟩ := key _ _ (.inl ⟨rfl, rfl⟩)
      exact hf_of hd k1 k2
  · obtain ⟨sg, hs⟩ := sum_opp s m (rne m d * 2 ^ j) d j D (by omega)
    refine ⟨Ieee.double.nearest sg (if rne m d * 2 ^ d ≤ m then m - rne m d * 2 ^ d else rne m d * 2 ^ d - m) (-(d : Int)), ?_, ?_⟩
    · show ((Ieee.double.read x).sum (Ieee.double.read y).opposite).map Ieee.double.write = _
      rw [hr, hx]
      simp only [Ieee.Datum.opposite]
      rw [hs, e1, abs_scale, e2]
      simp only [Option.map_some, Ieee.Format.write, nearest_scale]
    · obtain ⟨k1, k2⟩ := key _ _ (.inr ⟨rfl, rfl⟩)
      exact hf_of hd k1 k2
end Go.Proofs.Ytcmjhgijejmiaaa
