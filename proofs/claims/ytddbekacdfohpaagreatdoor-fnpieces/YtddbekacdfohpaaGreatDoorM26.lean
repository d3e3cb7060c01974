/- QR0 QR1 QR3. -/
import Derived.Test.YtddbekacdfohpaaGreatDoorM25
import Derived.Test.YtddbekacdfohpaaGreatDoorM16
namespace Go.Proofs.YtddbekacdfohpaaGreatDoor.Q

/-- How many bits a number has. -/
def blen (N : Nat) : Nat := if N = 0 then 0 else Nat.log2 N + 1

theorem bl_blen (N : Nat) : Bl N (blen N) := by
  unfold blen
  by_cases h : N = 0
  · simp [h, Bl]
  · rw [if_neg h]
    exact Or.inr ⟨by omega, by simpa using Nat.log2_self_le h, Nat.lt_log2_self⟩

theorem Bl.eq {N L : Nat} (h : Bl N L) : L = blen N := by
  have h2 := bl_blen N
  rcases h with ⟨rfl, rfl⟩ | ⟨h0, h1, h3⟩
  · simp [blen]
  · rcases h2 with ⟨rfl, _⟩ | ⟨k0, k1, k3⟩
    · have := Nat.pow_pos (n := L - 1) (show 0 < 2 by decide)
      omega
    · have a1 : L - 1 < blen N := (Nat.pow_lt_pow_iff_right (a := 2) (by decide)).1 (Nat.lt_of_le_of_lt h1 k3)
      have a2 : blen N - 1 < L := (Nat.pow_lt_pow_iff_right (a := 2) (by decide)).1 (Nat.lt_of_le_of_lt k1 h3)
      omega

theorem blen_pos {N : Nat} (h : 0 < N) : 0 < blen N ∧ 2 ^ (blen N - 1) ≤ N ∧ N < 2 ^ blen N := by
  rcases bl_blen N with ⟨rfl, _⟩ | h
  · omega
  · exact h

theorem blen_le {N L : Nat} (h : N < 2 ^ L) : blen N ≤ L := by
  rcases Nat.eq_zero_or_pos N with rfl | h0
  · simp [blen]
  · obtain ⟨h1, h2, _⟩ := blen_pos h0
    have := (Nat.pow_lt_pow_iff_right (a := 2) (by decide)).1 (Nat.lt_of_le_of_lt h2 h)
    omega

theorem blen_at {N L : Nat} (h0 : 2 ^ L ≤ N) (h1 : N < 2 ^ (L + 1)) : blen N = L + 1 :=
  (Bl.eq (Or.inr ⟨by omega, by simpa using h0, h1⟩)).symm

/-- Whether a size is rounded away from 0. -/
def upOf (mode : Int) (neg odd : Bool) (half : Int) (some : Bool) : Bool :=
  if mode = 1 then decide (0 < half) || (decide (half = 0) && odd) else if mode = 2 then decide (0 ≤ half) else if mode = 4 then some && !neg else if mode = 5 then some && neg else false

/-- A number cut at the place d. -/
def mOf (N : Nat) (d : Int) : Nat := if d ≤ 0 then N * 2 ^ (-d).toNat else N / 2 ^ d.toNat
/-- What is cut off. -/
def rOf (N : Nat) (d : Int) : Nat := if d ≤ 0 then 0 else N % 2 ^ d.toNat
/-- What is cut off against a half of the last place. -/
def hOf (N : Nat) (d : Int) (more : Bool) : Int := if d ≤ 0 then -1 else if (cmpOf (rOf N d) (2 ^ (d.toNat - 1)) = 0 ∧ more = true) then 1 else cmpOf (rOf N d) (2 ^ (d.toNat - 1))
/-- Whether anything is cut off. -/
def sOf (N : Nat) (d : Int) (more : Bool) : Bool := more || decide (0 < rOf N d)
/-- The exponent of the last place. -/
def uOf (p t e : Int) (N : Nat) : Int := (if e + blen N - 1 < 1 - t then 1 - t else e + blen N - 1) - p + 1
/-- The number of last places. -/
def kOf (mode : Int) (neg : Bool) (N : Nat) (d : Int) (more : Bool) : Nat := mOf N d + (if upOf mode neg (mOf N d % 2 == 1) (hOf N d more) (sOf N d more) then 1 else 0)
/-- The flags where nothing is too great. -/
def fOf (t e : Int) (N : Nat) (d : Int) (more : Bool) : Int := if sOf N d more then (if e + blen N - 1 < 1 - t then 3 else 1) else 0
/-- The bits without their sign, where nothing is too great. -/
def zOf (p t h mode e : Int) (neg : Bool) (N : Nat) (more : Bool) : Int := (uOf p t e N - (2 - t - p)) * h + kOf mode neg N (uOf p t e N - e) more
/-- What is told where a number is too great. -/
def oOf (mode i : Int) (neg : Bool) : Int := if mode = 3 ∨ (mode = 4 ∧ neg = true) ∨ (mode = 5 ∧ neg = false) then i - 1 else i
def rndV (p t h S mode e : Int) (neg : Bool) (N : Nat) (more : Bool) : Int := (if (2 * t + 1) * h ≤ zOf p t h mode e neg N more then oOf mode ((2 * t + 1) * h) neg else zOf p t h mode e neg N more) + (if neg then S else 0)
def rndF (p t h mode e : Int) (neg : Bool) (N : Nat) (more : Bool) : Int := if (2 * t + 1) * h ≤ zOf p t h mode e neg N more then 5 else fOf t e N (uOf p t e N - e) more

theorem uOf_ge (p t e : Int) (N : Nat) : 2 - t - p ≤ uOf p t e N ∧ e + blen N - p ≤ uOf p t e N ∧ (e + blen N - 1 < 1 - t → uOf p t e N = 2 - t - p) ∧ (¬ e + blen N - 1 < 1 - t → uOf p t e N = e + blen N - p) := by
  unfold uOf
  split <;> omega

theorem mOf_lt {N : Nat} {d : Int} {P : Nat} (h : (blen N : Int) - d ≤ P) : mOf N d < 2 ^ P := by
  have hN : N < 2 ^ blen N := by
    rcases bl_blen N with ⟨rfl, h⟩ | h
    · exact Nat.pow_pos (by decide)
    · exact h.2.2
  unfold mOf
  split
  · refine Nat.lt_of_lt_of_le (Nat.mul_lt_mul_of_pos_right hN (Nat.pow_pos (by decide))) ?_
    rw [← Nat.pow_add]
    exact Nat.pow_le_pow_right (by decide) (by omega)
  · rw [Nat.div_lt_iff_lt_mul (Nat.pow_pos (by decide)), ← Nat.pow_add]
    exact Nat.lt_of_lt_of_le hN (Nat.pow_le_pow_right (by decide) (by omega))

theorem mOf_ge {N : Nat} {d : Int} {P : Nat} (h0 : 0 < N) (h : (P : Int) + 1 ≤ (blen N : Int) - d) : 2 ^ P ≤ mOf N d := by
  obtain ⟨hL, hN, _⟩ := blen_pos h0
  unfold mOf
  split
  · refine Nat.le_trans ?_ (Nat.mul_le_mul_right _ hN)
    rw [← Nat.pow_add]
    exact Nat.pow_le_pow_right (by decide) (by omega)
  · rw [Nat.le_div_iff_mul_le (Nat.pow_pos (by decide)), ← Nat.pow_add]
    exact Nat.le_trans (Nat.pow_le_pow_right (by decide) (by omega)) hN

theorem kOf_le (mode : Int) (neg : Bool) (N : Nat) (d : Int) (more : Bool) : mOf N d ≤ kOf mode neg N d more ∧ kOf mode neg N d more ≤ mOf N d + 1 := by
  unfold kOf
  split <;> omega
end Go.Proofs.YtddbekacdfohpaaGreatDoor.Q

namespace Go.Proofs.YtddbekacdfohpaaGreatDoor.Q
open Go.RowKit

set_option maxHeartbeats 1000000 in
theorem up_any (mode half : Int) (neg odd some : Bool) (w : World) :
    Calls Tryz.prog 83 #[.int .i64 mode, .bool neg, .bool odd, .int .i64 half, .bool some] w fun e w' => e = .returned (.bool (upOf mode neg odd half some)) ∧ w' = w := by
  unfold upOf
  by_cases m1 : mode = 1
  · subst m1
    rw [if_pos rfl]
    rcases Int.lt_trichotomy half 0 with h | rfl | h
    · have h0 : (half == 0) = false := by simp; omega
      have h1 : ¬ 0 < half := by omega
      go_enter Tryz.func83, Tryz.ntmps83
      go_wp2
      go_ret
      refine ⟨?_, rfl⟩
      simp
      omega
    · go_enter Tryz.func83, Tryz.ntmps83
      go_wp2
      go_ret
      exact ⟨by simp, rfl⟩
    · go_enter Tryz.func83, Tryz.ntmps83
      go_wp2
      go_ret
      refine ⟨?_, rfl⟩
      simp [h]
  rw [if_neg m1]
  have b1 : (mode == 1) = false := by simpa using m1
  by_cases m2 : mode = 2
  · subst m2
    rw [if_pos rfl]
    go_enter Tryz.func83, Tryz.ntmps83
    go_wp2
    go_ret
    exact ⟨rfl, rfl⟩
  rw [if_neg m2]
  have b2 : (mode == 2) = false := by simpa using m2
  by_cases m4 : mode = 4
  · subst m4
    rw [if_pos rfl]
    cases some
    all_goals
      go_enter Tryz.func83, Tryz.ntmps83
      go_wp2
      go_ret
      exact ⟨by simp, rfl⟩
  rw [if_neg m4]
  have b4 : (mode == 4) = false := by simpa using m4
  by_cases m5 : mode = 5
  · subst m5
    rw [if_pos rfl]
    cases some
    all_goals
      go_enter Tryz.func83, Tryz.ntmps83
      go_wp2
      go_ret
      exact ⟨by simp, rfl⟩
  rw [if_neg m5]
  have b5 : (mode == 5) = false := by simpa using m5
  clear m1 m2 m4 m5
  go_enter Tryz.func83, Tryz.ntmps83
  go_wp2
  go_ret
  exact ⟨rfl, rfl⟩

theorem l1Sign_any {f wd p t S D : Int} (hF : Form f wd p t S D) (n : Bool) (w : World) :
    Calls Tryz.prog 50 #[.int .i64 f, .bool n] w fun e w' => e = .returned (.int .u64 (if n then S else 0)) ∧ w' = w := by
  cases n
  · have hF' := hF
    clear hF
    go_enter Tryz.func50, Tryz.ntmps50
    go_wp2_with (go_at_call 64; refine (l1Form_any hF' _).mono ?_; rintro e w' ⟨rfl, rfl⟩)
    go_ret
    exact ⟨rfl, rfl⟩
  · exact l1Sign_true hF w

theorem l1Inf_any {f wd p t S D h q : Int} (hF : Frm f wd p t S D h q) (n : Bool) (w : World) :
    Calls Tryz.prog 51 #[.int .i64 f, .bool n] w fun e w' => e = .returned (.int .u64 ((2 * t + 1) * h + (if n then S else 0))) ∧ w' = w := by
  have hF' := hF
  rcases hF with ⟨rfl, rfl, rfl, rfl, rfl, rfl, rfl, rfl⟩ | ⟨rfl, rfl, rfl, rfl, rfl, rfl, rfl, rfl⟩ | ⟨rfl, rfl, rfl, rfl, rfl, rfl, rfl, rfl⟩
  all_goals
    cases n
    all_goals
      go_enter Tryz.func51, Tryz.ntmps51
      go_wp2_with (first | (go_at_call 64; refine (l1Form_any hF'.form _).mono ?_; rintro e w' ⟨rfl, rfl⟩) | (go_at_call 50; refine (l1Sign_any hF'.form _ _).mono ?_; rintro e w' ⟨rfl, rfl⟩))
      go_ret
      exact ⟨rfl, rfl⟩
end Go.Proofs.YtddbekacdfohpaaGreatDoor.Q

namespace Go.Proofs.YtddbekacdfohpaaGreatDoor.Q

/-- The ends of a rounding: U, the exponent of the last place; K, how many of it; n, the bits of K; z, what comes out. -/
def Ends (p t h U n z : Int) (K : Nat) : Prop :=
  (t < n + U - 1 ∧ (2 * t + 1) * h ≤ z) ∨
  (¬ t < n + U - 1 ∧ n + U - 1 < 1 - t ∧ ¬ (2 * t + 1) * h ≤ z ∧ z = K ∧ (K : Int) < h) ∨
  (¬ t < n + U - 1 ∧ ¬ n + U - 1 < 1 - t ∧ ¬ (2 * t + 1) * h ≤ z ∧ n = p ∧ z = (n + U - 1 + t) * h + K - h ∧ h ≤ K ∧ (K : Int) < 2 * h) ∨
  (¬ t < n + U - 1 ∧ ¬ n + U - 1 < 1 - t ∧ ¬ (2 * t + 1) * h ≤ z ∧ n = p + 1 ∧ z = (n + U - 1 + t) * h ∧ (K : Int) = 2 * h)

theorem ends_of {p t h e U : Int} {P N K : Nat} (hp : p = P + 1) (hh : h = ((2 ^ P : Nat) : Int)) (_ht : 1 ≤ t) (hN : 0 < N) (hU : U = uOf p t e N) (mode : Int) (neg more : Bool) (hK : K = kOf mode neg N (U - e) more)
    (lin : ∀ (s : Int) (k : Int), U = 2 - t - p + s → 0 ≤ s → 0 ≤ k → ∀ n : Int, ((s = 0 ∧ k < h ∧ n < p) ∨ (n = p ∧ h ≤ k ∧ k < 2 * h) ∨ (n = p + 1 ∧ k = 2 * h)) → K = k.toNat → Ends p t h U n ((U - (2 - t - p)) * h + k) K) :
    Ends p t h U (blen K) ((U - (2 - t - p)) * h + K) K := by
  obtain ⟨u1, u2, u3, u4⟩ := uOf_ge p t e N
  rw [← hU] at u1 u2 u3 u4
  obtain ⟨k1, k2⟩ := kOf_le mode neg N (U - e) more
  rw [← hK] at k1 k2
  refine lin (U - (2 - t - p)) K (by omega) (by omega) (by omega) (blen K) ?_ (by simp)
  have e2 : (2 : Nat) ^ (P + 1) = 2 * 2 ^ P := by rw [Nat.pow_succ]; omega
  by_cases hs : e + blen N - 1 < 1 - t
  · have := u3 hs
    have hm := mOf_lt (N := N) (d := U - e) (P := P) (by omega)
    by_cases hk : K < 2 ^ P
    · have := blen_le hk
      exact Or.inl ⟨by omega, by omega, by omega⟩
    · have := blen_at (N := K) (L := P) (by omega) (by omega)
      exact Or.inr (Or.inl ⟨by omega, by omega, by omega⟩)
  · have := u4 hs
    have hm := mOf_lt (N := N) (d := U - e) (P := P + 1) (by omega)
    have hg := mOf_ge (N := N) (d := U - e) (P := P) hN (by omega)
    by_cases hk : K < 2 ^ (P + 1)
    · have := blen_at (N := K) (L := P) (by omega) hk
      exact Or.inr (Or.inl ⟨by omega, by omega, by omega⟩)
    · have h3 : K = 2 ^ (P + 1) := by omega
      have := blen_at (N := K) (L := P + 1) (by omega) (by rw [h3, Nat.pow_succ 2 (P + 1)]; have := Nat.pow_pos (n := P + 1) (show 0 < 2 by decide); omega)
      exact Or.inr (Or.inr ⟨by omega, by omega⟩)

theorem ends_frm {f wd p t S D h q e U : Int} {N K : Nat} (hF : Frm f wd p t S D h q) (hN : 0 < N) (hU : U = uOf p t e N) (mode : Int) (neg more : Bool) (hK : K = kOf mode neg N (U - e) more) :
    Ends p t h U (blen K) ((U - (2 - t - p)) * h + K) K := by
  rcases hF with ⟨rfl, rfl, rfl, rfl, rfl, rfl, rfl, rfl⟩ | ⟨rfl, rfl, rfl, rfl, rfl, rfl, rfl, rfl⟩ | ⟨rfl, rfl, rfl, rfl, rfl, rfl, rfl, rfl⟩
  · refine ends_of (P := 10) (by decide) (by decide) (by decide) hN hU mode neg more hK ?_
    rintro s k rfl h0 h1 n h2 h3
    unfold Ends
    rcases h2 with ⟨rfl, _, _⟩ | ⟨rfl, _, _⟩ | ⟨rfl, rfl⟩ <;> omega
  · refine ends_of (P := 23) (by decide) (by decide) (by decide) hN hU mode neg more hK ?_
    rintro s k rfl h0 h1 n h2 h3
    unfold Ends
    rcases h2 with ⟨rfl, _, _⟩ | ⟨rfl, _, _⟩ | ⟨rfl, rfl⟩ <;> omega
  · refine ends_of (P := 52) (by decide) (by decide) (by decide) hN hU mode neg more hK ?_
    rintro s k rfl h0 h1 n h2 h3
    unfold Ends
    rcases h2 with ⟨rfl, _, _⟩ | ⟨rfl, _, _⟩ | ⟨rfl, rfl⟩ <;> omega
end Go.Proofs.YtddbekacdfohpaaGreatDoor.Q
