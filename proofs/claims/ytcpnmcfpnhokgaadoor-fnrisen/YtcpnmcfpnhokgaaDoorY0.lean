/- Rounding in plain numbers: what needs none is itself, and of two numbers the greater is not rounded to less. Nothing of the program stands here. -/
import Derived.Test.YtcpnmcfpnhokgaaDoorR0
namespace Go.Proofs.YtcpnmcfpnhokgaaDoor

theorem up_none (mode : Int) (n o : Bool) : upOf mode n o (-1) false = false := by
  unfold upOf
  repeat' split
  all_goals simp

/-- A number that the form has exactly. -/
theorem z_exact {p t h mode st : Int} (n : Bool) {m : Nat} (hp : 1 ≤ p) (hh : h = ((2 ^ (p - 1).toNat : Nat) : Int)) (_ : 0 < m) (hm2 : (m : Int) < 2 * h) (hor : st = 0 ∨ h ≤ m) (hst : 0 ≤ st) :
    zOf p t h mode (2 - t - p + st) n m false = st * h + m := by
  have e2 : (2 : Nat) ^ p.toNat = 2 * 2 ^ (p - 1).toNat := by
    rw [show p.toNat = (p - 1).toNat + 1 by omega, Nat.pow_succ, Nat.mul_comm]
  have hb : blen m ≤ p.toNat := blen_le (by rw [e2]; omega)
  have hu : uOf p t (2 - t - p + st) m = 2 - t - p + st := by
    rcases hor with rfl | hor
    · unfold uOf
      split <;> omega
    · have : blen m = (p - 1).toNat + 1 := blen_at (by omega) (by rw [show (p - 1).toNat + 1 = p.toNat by omega, e2]; omega)
      unfold uOf
      rw [if_neg (by omega)]
      omega
  unfold zOf kOf
  rw [hu, show 2 - t - p + st - (2 - t - p + st) = 0 by omega, show 2 - t - p + st - (2 - t - p) = st by omega]
  have e3 : mOf m 0 = m := by simp [mOf]
  have e4 : hOf m 0 false = -1 := by simp [hOf]
  have e5 : sOf m 0 false = false := by simp [sOf, rOf]
  rw [e3, e4, e5, up_none]
  simp

theorem up_mono {mode : Int} {n o : Bool} {a b : Int} {s s' : Bool} (hab : a ≤ b) (hs : s = true → s' = true) (h : upOf mode n o a s = true) : upOf mode n o b s' = true := by
  unfold upOf at *
  by_cases m1 : mode = 1
  · rw [if_pos m1] at h ⊢
    simp only [Bool.or_eq_true, Bool.and_eq_true, decide_eq_true_eq] at h ⊢
    rcases h with h | ⟨h, ho⟩
    · exact Or.inl (by omega)
    · by_cases hb : b = 0
      · exact Or.inr ⟨hb, ho⟩
      · exact Or.inl (by omega)
  rw [if_neg m1] at h ⊢
  by_cases m2 : mode = 2
  · rw [if_pos m2] at h ⊢
    simp only [decide_eq_true_eq] at h ⊢
    omega
  rw [if_neg m2] at h ⊢
  by_cases m4 : mode = 4
  · rw [if_pos m4] at h ⊢
    simp only [Bool.and_eq_true] at h ⊢
    exact ⟨hs h.1, h.2⟩
  rw [if_neg m4] at h ⊢
  by_cases m5 : mode = 5
  · rw [if_pos m5] at h ⊢
    simp only [Bool.and_eq_true] at h ⊢
    exact ⟨hs h.1, h.2⟩
  rw [if_neg m5] at h
  exact absurd h (by decide)

theorem k_mono (mode : Int) (n : Bool) {N N' : Nat} (d : Int) (h : N ≤ N') : kOf mode n N d false ≤ kOf mode n N' d false := by
  by_cases hd : d ≤ 0
  · have e : ∀ N, kOf mode n N d false = N * 2 ^ (-d).toNat := fun N => by
      have e4 : hOf N d false = -1 := by simp [hOf, hd]
      have e5 : sOf N d false = false := by simp [sOf, rOf, hd]
      unfold kOf
      rw [e4, e5, up_none]
      simp [mOf, hd]
    rw [e, e]
    exact Nat.mul_le_mul_right _ h
  · have hm : ∀ N, mOf N d = N / 2 ^ d.toNat := fun N => by simp [mOf, hd]
    have hr : ∀ N, rOf N d = N % 2 ^ d.toNat := fun N => by simp [rOf, hd]
    have hc : ∀ N, hOf N d false = cmpOf (N % 2 ^ d.toNat) (2 ^ (d.toNat - 1)) := fun N => by simp [hOf, hd, hr]
    have hs : ∀ N, sOf N d false = decide (0 < N % 2 ^ d.toNat) := fun N => by simp [sOf, hr]
    have hle : N / 2 ^ d.toNat ≤ N' / 2 ^ d.toNat := Nat.div_le_div_right h
    have k1 := kOf_le mode n N d false
    have k2 := kOf_le mode n N' d false
    by_cases hlt : N / 2 ^ d.toNat < N' / 2 ^ d.toNat
    · rw [hm] at k1 k2
      omega
    · have he : N / 2 ^ d.toNat = N' / 2 ^ d.toNat := by omega
      have hrr : N % 2 ^ d.toNat ≤ N' % 2 ^ d.toNat := by
        have a := Nat.div_add_mod N (2 ^ d.toNat)
        have b := Nat.div_add_mod N' (2 ^ d.toNat)
        rw [he] at a
        omega
      have hcc : cmpOf (N % 2 ^ d.toNat) (2 ^ (d.toNat - 1)) ≤ cmpOf (N' % 2 ^ d.toNat) (2 ^ (d.toNat - 1)) := by
        unfold cmpOf
        repeat' split
        all_goals omega
      unfold kOf
      rw [hm, hm, hc, hc, hs, hs, he]
      have := up_mono (mode := mode) (n := n) (o := N' / 2 ^ d.toNat % 2 == 1) (s := decide (0 < N % 2 ^ d.toNat)) (s' := decide (0 < N' % 2 ^ d.toNat)) hcc (by simp; omega)
      split
      · rw [if_pos (this ‹_›)]
        exact Nat.le_refl _
      · omega

theorem blen_mono {N N' : Nat} (h : N ≤ N') : blen N ≤ blen N' := by
  rcases Nat.eq_zero_or_pos N' with rfl | h0
  · have : N = 0 := by omega
    rw [this]
    exact Nat.le_refl _
  · exact blen_le (Nat.lt_of_le_of_lt h (blen_pos h0).2.2)

theorem z_mono {p t h mode e : Int} (n : Bool) {N N' : Nat} (hp : 1 ≤ p) (hh : h = ((2 ^ (p - 1).toNat : Nat) : Int)) (h0 : 0 < N) (hle : N ≤ N') :
    zOf p t h mode e n N false ≤ zOf p t h mode e n N' false := by
  have hb := blen_mono hle
  obtain ⟨u1, u2, u3, u4⟩ := uOf_ge p t e N
  obtain ⟨v1, v2, v3, v4⟩ := uOf_ge p t e N'
  have hh0 : 0 < h := by
    have := Nat.pow_pos (n := (p - 1).toNat) (show 0 < 2 by decide)
    omega
  by_cases he : uOf p t e N = uOf p t e N'
  · unfold zOf
    rw [he]
    have := k_mono mode n (uOf p t e N' - e) hle
    omega
  · have hlt : uOf p t e N < uOf p t e N' := by
      by_cases c1 : e + blen N - 1 < 1 - t <;> by_cases c2 : e + blen N' - 1 < 1 - t
      · have := u3 c1; have := v3 c2; omega
      · have := u3 c1; omega
      · omega
      · have := u4 c1; have := v4 c2; omega
    have hbig : ¬ e + (blen N' : Int) - 1 < 1 - t := fun c => by have := v3 c; omega
    have hu' := v4 hbig
    have m1 : mOf N (uOf p t e N - e) < 2 ^ p.toNat := mOf_lt (by omega)
    have m2 : 2 ^ (p - 1).toNat ≤ mOf N' (uOf p t e N' - e) := mOf_ge (by omega) (by omega)
    have e2 : (2 : Nat) ^ p.toNat = 2 * 2 ^ (p - 1).toNat := by
      rw [show p.toNat = (p - 1).toNat + 1 by omega, Nat.pow_succ, Nat.mul_comm]
    have k1 := kOf_le mode n N (uOf p t e N - e) false
    have k2 := kOf_le mode n N' (uOf p t e N' - e) false
    have hm : (uOf p t e N - (2 - t - p)) * h + h ≤ (uOf p t e N' - (2 - t - p)) * h := by
      have := Int.mul_le_mul_of_nonneg_right (show uOf p t e N - (2 - t - p) + 1 ≤ uOf p t e N' - (2 - t - p) by omega) (Int.le_of_lt hh0)
      rw [Int.add_mul] at this
      omega
    unfold zOf
    omega

/-- The bits without their sign. -/
def sizV (p t h mode e : Int) (n : Bool) (N : Nat) : Int := if (2 * t + 1) * h ≤ zOf p t h mode e n N false then oOf mode ((2 * t + 1) * h) n else zOf p t h mode e n N false

theorem rnd_siz (p t h S mode e : Int) (n : Bool) (N : Nat) : rndV p t h S mode e n N false = sizV p t h mode e n N + (if n then S else 0) := rfl

theorem siz_mono {p t h mode e : Int} (n : Bool) {N N' : Nat} (hp : 1 ≤ p) (hh : h = ((2 ^ (p - 1).toNat : Nat) : Int)) (h0 : 0 < N) (hle : N ≤ N') : sizV p t h mode e n N ≤ sizV p t h mode e n N' := by
  have := z_mono (t := t) (mode := mode) (e := e) n hp hh h0 hle
  unfold sizV oOf
  repeat' split
  all_goals omega

theorem siz_top (p t h mode e : Int) (n : Bool) (N : Nat) : sizV p t h mode e n N ≤ (2 * t + 1) * h := by
  unfold sizV oOf
  repeat' split
  all_goals omega

theorem siz_pos {p t h mode e : Int} (n : Bool) {N : Nat} (hh : 0 < h) (ht : 0 < t) : 0 ≤ sizV p t h mode e n N := by
  obtain ⟨u1, -⟩ := uOf_ge p t e N
  have hz : 0 ≤ zOf p t h mode e n N false := by
    unfold zOf
    have := Int.mul_nonneg (show 0 ≤ uOf p t e N - (2 - t - p) by omega) (Int.le_of_lt hh)
    omega
  have : 0 < (2 * t + 1) * h := Int.mul_pos (by omega) hh
  unfold sizV oOf
  repeat' split
  all_goals omega
end Go.Proofs.YtcpnmcfpnhokgaaDoor
