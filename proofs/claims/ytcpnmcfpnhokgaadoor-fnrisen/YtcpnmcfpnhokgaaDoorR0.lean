/- Rounding a whole number times a power of two into a form: a plain function of numbers, and its facts. Nothing of the program stands here. -/
import Derived.Test.YtcpnmcfpnhokgaaDoorS2
namespace Go.Proofs.YtcpnmcfpnhokgaaDoor

/-- How many bits a number has. -/
def blen (N : Nat) : Nat := if N = 0 then 0 else Nat.log2 N + 1

theorem bl_blen (N : Nat) : Bl N (blen N) := by
  unfold blen
  by_cases h : N = 0
  · simp [h, Bl]
  · rw [if_neg h]
    exact Or.inr ⟨by omega, by simpa using Nat.log2_self_le h, Nat.lt_log2_self⟩

theorem Bl.eq {N L : Nat} (h : Bl N L) : L = blen N := by
  have h2 := bl_blen N
  rcases h with ⟨rfl, rfl⟩ | ⟨h0, h1, h3⟩
  · simp [blen]
  · rcases h2 with ⟨rfl, _⟩ | ⟨k0, k1, k3⟩
    · have := Nat.pow_pos (n := L - 1) (show 0 < 2 by decide)
      omega
    · have a1 : L - 1 < blen N := (Nat.pow_lt_pow_iff_right (a := 2) (by decide)).1 (Nat.lt_of_le_of_lt h1 k3)
      have a2 : blen N - 1 < L := (Nat.pow_lt_pow_iff_right (a := 2) (by decide)).1 (Nat.lt_of_le_of_lt k1 h3)
      omega

theorem blen_pos {N : Nat} (h : 0 < N) : 0 < blen N ∧ 2 ^ (blen N - 1) ≤ N ∧ N < 2 ^ blen N := by
  rcases bl_blen N with ⟨rfl, _⟩ | h
  · omega
  · exact h

theorem blen_le {N L : Nat} (h : N < 2 ^ L) : blen N ≤ L := by
  rcases Nat.eq_zero_or_pos N with rfl | h0
  · simp [blen]
  · obtain ⟨h1, h2, _⟩ := blen_pos h0
    have := (Nat.pow_lt_pow_iff_right (a := 2) (by decide)).1 (Nat.lt_of_le_of_lt h2 h)
    omega

theorem blen_at {N L : Nat} (h0 : 2 ^ L ≤ N) (h1 : N < 2 ^ (L + 1)) : blen N = L + 1 :=
  (Bl.eq (Or.inr ⟨by omega, by simpa using h0, h1⟩)).symm

/-- Whether a size is rounded away from 0. -/
def upOf (mode : Int) (neg odd : Bool) (half : Int) (some : Bool) : Bool :=
  if mode = 1 then decide (0 < half) || (decide (half = 0) && odd) else if mode = 2 then decide (0 ≤ half) else if mode = 4 then some && !neg else if mode = 5 then some && neg else false

/-- A number cut at the place d. -/
def mOf (N : Nat) (d : Int) : Nat := if d ≤ 0 then N * 2 ^ (-d).toNat else N / 2 ^ d.toNat
/-- What is cut off. -/
def rOf (N : Nat) (d : Int) : Nat := if d ≤ 0 then 0 else N % 2 ^ d.toNat
/-- What is cut off against a half of the last place. -/
def hOf (N : Nat) (d : Int) (more : Bool) : Int := if d ≤ 0 then -1 else if (cmpOf (rOf N d) (2 ^ (d.toNat - 1)) = 0 ∧ more = true) then 1 else cmpOf (rOf N d) (2 ^ (d.toNat - 1))
/-- Whether anything is cut off. -/
def sOf (N : Nat) (d : Int) (more : Bool) : Bool := more || decide (0 < rOf N d)
/-- The exponent of the last place. -/
def uOf (p t e : Int) (N : Nat) : Int := (if e + blen N - 1 < 1 - t then 1 - t else e + blen N - 1) - p + 1
/-- The number of last places. -/
def kOf (mode : Int) (neg : Bool) (N : Nat) (d : Int) (more : Bool) : Nat := mOf N d + (if upOf mode neg (mOf N d % 2 == 1) (hOf N d more) (sOf N d more) then 1 else 0)
/-- The flags where nothing is too great. -/
def fOf (t e : Int) (N : Nat) (d : Int) (more : Bool) : Int := if sOf N d more then (if e + blen N - 1 < 1 - t then 3 else 1) else 0
/-- The bits without their sign, where nothing is too great. -/
def zOf (p t h mode e : Int) (neg : Bool) (N : Nat) (more : Bool) : Int := (uOf p t e N - (2 - t - p)) * h + kOf mode neg N (uOf p t e N - e) more
/-- What is told where a number is too great. -/
def oOf (mode i : Int) (neg : Bool) : Int := if mode = 3 ∨ (mode = 4 ∧ neg = true) ∨ (mode = 5 ∧ neg = false) then i - 1 else i
def rndV (p t h S mode e : Int) (neg : Bool) (N : Nat) (more : Bool) : Int := (if (2 * t + 1) * h ≤ zOf p t h mode e neg N more then oOf mode ((2 * t + 1) * h) neg else zOf p t h mode e neg N more) + (if neg then S else 0)
def rndF (p t h mode e : Int) (neg : Bool) (N : Nat) (more : Bool) : Int := if (2 * t + 1) * h ≤ zOf p t h mode e neg N more then 5 else fOf t e N (uOf p t e N - e) more

theorem uOf_ge (p t e : Int) (N : Nat) : 2 - t - p ≤ uOf p t e N ∧ e + blen N - p ≤ uOf p t e N ∧ (e + blen N - 1 < 1 - t → uOf p t e N = 2 - t - p) ∧ (¬ e + blen N - 1 < 1 - t → uOf p t e N = e + blen N - p) := by
  unfold uOf
  split <;> omega

theorem mOf_lt {N : Nat} {d : Int} {P : Nat} (h : (blen N : Int) - d ≤ P) : mOf N d < 2 ^ P := by
  have hN : N < 2 ^ blen N := by
    rcases bl_blen N with ⟨rfl, h⟩ | h
    · exact Nat.pow_pos (by decide)
    · exact h.2.2
  unfold mOf
  split
  · refine Nat.lt_of_lt_of_le (Nat.mul_lt_mul_of_pos_right hN (Nat.pow_pos (by decide))) ?_
    rw [← Nat.pow_add]
    exact Nat.pow_le_pow_right (by decide) (by omega)
  · rw [Nat.div_lt_iff_lt_mul (Nat.pow_pos (by decide)), ← Nat.pow_add]
    exact Nat.lt_of_lt_of_le hN (Nat.pow_le_pow_right (by decide) (by omega))

theorem mOf_ge {N : Nat} {d : Int} {P : Nat} (h0 : 0 < N) (h : (P : Int) + 1 ≤ (blen N : Int) - d) : 2 ^ P ≤ mOf N d := by
  obtain ⟨hL, hN, _⟩ := blen_pos h0
  unfold mOf
  split
  · refine Nat.le_trans ?_ (Nat.mul_le_mul_right _ hN)
    rw [← Nat.pow_add]
    exact Nat.pow_le_pow_right (by decide) (by omega)
  · rw [Nat.le_div_iff_mul_le (Nat.pow_pos (by decide)), ← Nat.pow_add]
    exact Nat.le_trans (Nat.pow_le_pow_right (by decide) (by omega)) hN

theorem kOf_le (mode : Int) (neg : Bool) (N : Nat) (d : Int) (more : Bool) : mOf N d ≤ kOf mode neg N d more ∧ kOf mode neg N d more ≤ mOf N d + 1 := by
  unfold kOf
  split <;> omega
end Go.Proofs.YtcpnmcfpnhokgaaDoor
