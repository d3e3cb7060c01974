/- Rows and columns transformed: either first; and back. -/
import Derived.Test.YtabdondefoldaaaDoorGH
namespace Go.Proofs.YtabdondefoldaaaDoor
open Go.RowKit

theorem dft_bounds {xs : Nat → Int} {n : Nat} {W b p : Int} (hp : 1 ≤ p) (k : Nat) : 0 ≤ dft xs n W b p k ∧ dft xs n W b p k ≤ p - 1 := by
  have h1 := Int.emod_nonneg (dsum xs W k n % p * b) (show p ≠ 0 by omega)
  have h2 := Int.emod_lt_of_pos (dsum xs W k n % p * b) (show 0 < p by omega)
  unfold dft
  omega

theorem unV_pos {n : Nat} {p : Int} (hp : Prm p) (hn : Whl n) : 1 ≤ unV n p ∧ unV n p ≤ p - 1 := by
  have hb := hp.bounds
  have bu := unV_bounds (n := n) hp
  have hq := hn.bounds
  refine ⟨?_, by omega⟩
  rcases Int.lt_or_le (unV n p) 1 with h | h
  · exfalso
    have h0 : unV n p = 0 := by omega
    have h1 := unit_full hp hn
    rw [h0, Int.zero_pow (by omega)] at h1
    obtain ⟨t, ht⟩ := h1
    have h5 : t ≤ -1 ∨ 0 ≤ t := by omega
    rcases h5 with h5 | h5
    · have := Int.mul_le_mul_of_nonneg_left h5 (show 0 ≤ p by omega)
      omega
    · have := Int.mul_nonneg (show 0 ≤ p by omega) h5
      omega
  · exact h

theorem dft_cg (xs : Nat → Int) (n : Nat) (w b p : Int) (k : Nat) : Cg p (dft xs n w b p k) (sm (fun i => xs i * w ^ (k * i)) n * b) := by
  unfold dft
  rw [dsum_sm]
  exact (cg_mod _ _).trans ((cg_mod _ _).mul (Cg.refl _ _))

/-- One term of the double sum. -/
def core (T : Nat → Nat → Int) (u w : Int) (k j i t : Nat) : Int := T i t * u ^ (j * t) * w ^ (k * i)

theorem d2_cg (n c : Nat) (p : Int) (back : Bool) (T : Nat → Nat → Int) (k j : Nat) : Cg p (d2 n c p back T k j) (dB c p back * sm (fun i => sm (core T (dW c p back) (dW n p back) k j i) c) n * dB n p back) := by
  refine (dft_cg _ _ _ _ _ _).trans (Cg.mul ?_ (Cg.refl _ _))
  rw [← sm_mul]
  refine sm_cg n (fun i _ => ?_)
  have h := (dft_cg (T i) c (dW c p back) (dB c p back) p j).mul (Cg.refl p (dW n p back ^ (k * i)))
  refine h.trans ?_
  have e : sm (core T (dW c p back) (dW n p back) k j i) c = dW n p back ^ (k * i) * sm (fun t => T i t * dW c p back ^ (j * t)) c := by
    rw [← sm_mul]
    exact sm_congr c (fun t _ => by unfold core; rw [Int.mul_comm])
  rw [e]
  have e2 : sm (fun t => T i t * dW c p back ^ (j * t)) c * dB c p back * dW n p back ^ (k * i) = dB c p back * (dW n p back ^ (k * i) * sm (fun t => T i t * dW c p back ^ (j * t)) c) := by
    generalize sm (fun t => T i t * dW c p back ^ (j * t)) c = S
    generalize dW n p back ^ (k * i) = Q
    rw [Int.mul_comm Q S, Int.mul_comm S, Int.mul_assoc]
  rw [e2]
  exact Cg.refl _ _

theorem dft_mod (xs : Nat → Int) (n : Nat) (w b p : Int) (k : Nat) : dft xs n w b p k % p = dft xs n w b p k := Int.emod_emod_of_dvd _ (Int.dvd_refl p)

/-- Columns first is rows first. -/
theorem d2_turn (n c : Nat) (p : Int) (back : Bool) (T : Nat → Nat → Int) (k j : Nat) : d2 n c p back T k j = d2 c n p back (fun t i => T i t) j k := by
  have h1 := d2_cg n c p back T k j
  have h2 := d2_cg c n p back (fun t i => T i t) j k
  have e : sm (fun t => sm (core (fun t i => T i t) (dW n p back) (dW c p back) j k t) n) c = sm (fun i => sm (core T (dW c p back) (dW n p back) k j i) c) n := by
    rw [sm_swap]
    refine sm_congr n (fun i _ => sm_congr c (fun t _ => ?_))
    unfold core
    rw [Int.mul_assoc, Int.mul_comm (dW n p back ^ (k * i)), ← Int.mul_assoc]
  rw [e] at h2
  have e3 : ∀ a b s : Int, b * s * a = a * s * b := fun a b s => by rw [Int.mul_comm b s, Int.mul_assoc, Int.mul_comm b a, ← Int.mul_assoc, Int.mul_comm s a]
  rw [e3] at h2
  have h := (h1.trans h2.symm).mod_eq
  have m1 : d2 n c p back T k j % p = d2 n c p back T k j := dft_mod _ _ _ _ _ _
  have m2 : d2 c n p back (fun t i => T i t) j k % p = d2 c n p back (fun t i => T i t) j k := dft_mod _ _ _ _ _ _
  rw [m1, m2] at h
  exact h

/-- There and back. -/
theorem dft_there {p : Int} {n : Nat} {xs : Nat → Int} (hp : Prm p) (hn : Whl n) (hx : ∀ k, k < n → 0 ≤ xs k ∧ xs k ≤ p - 1) {j : Nat} (hj : j < n) :
    dft (dft xs n (dW n p false) (dB n p false) p) n (dW n p true) (dB n p true) p j = xs j := by
  have hb := hn.bounds
  have hpb := hp.bounds
  have hu := unV_pos hp hn
  have e1 : dB n p false = 1 := by simp [dB]
  have e2 : dW n p true = ivV (unV n p) p := by simp [dW]
  have e3 : dW n p false = unV n p := by simp [dW]
  have e4 : dB n p true = ivV n p := by simp [dB]
  have hh : 2 ≤ n → Cg p (unV n p ^ (n / 2)) (-1) := fun h2 => by rw [← e3]; exact half_root hp hn h2 false
  rw [e1, e2, e3, e4]
  exact dft_back hp hn hh (inv_mul hp hu) (inv_mul hp (by omega)) hx hj

theorem d2_back {n c : Nat} {p : Int} {T : Nat → Nat → Int} (hp : Prm p) (hn : Whl n) (hc : Whl c) (hT : ∀ i, i < n → ∀ t, t < c → 0 ≤ T i t ∧ T i t ≤ p - 1) {i t : Nat} (hi : i < n) (ht : t < c) :
    d2 n c p true (d2 n c p false T) i t = T i t := by
  have hpb := hp.bounds
  have r : ∀ i', dr c p true (d2 n c p false T) i' t = dr n p false (fun t i => T i t) t i' := fun i' => by
    have e : d2 n c p false T i' = dft (fun t' => dr n p false (fun t i => T i t) t' i') c (dW c p false) (dB c p false) p := funext fun j => d2_turn n c p false T i' j
    show dft (d2 n c p false T i') c (dW c p true) (dB c p true) p t = _
    rw [e]
    exact dft_there (xs := fun t' => dr n p false (fun t i => T i t) t' i') hp hc (fun k _ => dft_bounds (by omega) i') ht
  show dft (fun i' => dr c p true (d2 n c p false T) i' t) n (dW n p true) (dB n p true) p i = _
  rw [show (fun i' => dr c p true (d2 n c p false T) i' t) = dft (fun i => T i t) n (dW n p false) (dB n p false) p from funext fun i' => r i']
  exact dft_there (xs := fun i => T i t) hp hn (fun k hk => hT k hk t ht) hi
end Go.Proofs.YtabdondefoldaaaDoor
