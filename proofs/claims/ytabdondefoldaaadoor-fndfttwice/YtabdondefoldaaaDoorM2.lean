/- Modulo a prime: inverses, units, and that the powers of a unit sum to 0. -/
import Derived.Test.YtabdondefoldaaaDoorM1
import Derived.Test.YtabdondefoldaaaDoorR3
namespace Go.Proofs.YtabdondefoldaaaDoor

/-- The same modulo p. -/
def Cg (p a b : Int) : Prop := ∃ t, a = b + p * t

theorem Cg.refl (p a : Int) : Cg p a a := ⟨0, by simp⟩
theorem Cg.symm {p a b : Int} (h : Cg p a b) : Cg p b a := by
  obtain ⟨t, rfl⟩ := h
  exact ⟨-t, by grind⟩
theorem Cg.trans {p a b c : Int} (h : Cg p a b) (h' : Cg p b c) : Cg p a c := by
  obtain ⟨t, rfl⟩ := h
  obtain ⟨s, rfl⟩ := h'
  exact ⟨s + t, by grind⟩
theorem Cg.add {p a b c d : Int} (h : Cg p a b) (h' : Cg p c d) : Cg p (a + c) (b + d) := by
  obtain ⟨t, rfl⟩ := h
  obtain ⟨s, rfl⟩ := h'
  exact ⟨t + s, by grind⟩
theorem Cg.mul {p a b c d : Int} (h : Cg p a b) (h' : Cg p c d) : Cg p (a * c) (b * d) := by
  obtain ⟨t, rfl⟩ := h
  obtain ⟨s, rfl⟩ := h'
  exact ⟨t * d + b * s + p * t * s, by grind⟩
theorem Cg.pow {p a b : Int} (h : Cg p a b) : ∀ k : Nat, Cg p (a ^ k) (b ^ k)
  | 0 => by rw [Int.pow_zero, Int.pow_zero]; exact Cg.refl _ _
  | k + 1 => by rw [Int.pow_succ, Int.pow_succ]; exact (h.pow k).mul h
theorem cg_mod (p a : Int) : Cg p (a % p) a := ⟨-(a / p), by
  have := Int.mul_ediv_add_emod a p
  rw [Int.mul_neg]
  omega⟩
theorem Cg.mod_eq {p a b : Int} (h : Cg p a b) : a % p = b % p := by
  obtain ⟨t, rfl⟩ := h
  exact Int.add_mul_emod_self_left b p t
theorem cg_of {p a b : Int} (h : a % p = b % p) : Cg p a b := (cg_mod p a).symm.trans (h ▸ cg_mod p b)

theorem prm_pri {p : Int} (hp : Prm p) : Pri p.toNat := by
  rcases hp with h | h | h
  · subst h; exact pri_a
  · subst h; exact pri_b
  · subst h; exact pri_c

/-- A residue not 0 to the power p - 1. -/
theorem fermatZ {a p : Int} (hp : Prm p) (ha : 1 ≤ a ∧ a ≤ p - 1) : Cg p (a ^ (p - 1).toNat) 1 := by
  have hb := hp.bounds
  have h := fermat (a := a.toNat) (prm_pri hp) (by omega) (by omega)
  have e1 : p.toNat - 1 = (p - 1).toNat := by omega
  rw [e1] at h
  have h2 : ((a.toNat ^ (p - 1).toNat % p.toNat : Nat) : Int) = 1 := by rw [h]; rfl
  rw [Int.natCast_emod, Int.natCast_pow, Int.toNat_of_nonneg (by omega), Int.toNat_of_nonneg (by omega)] at h2
  refine cg_of ?_
  rw [h2]
  exact (Int.emod_eq_of_lt (by omega) (by omega)).symm

/-- A residue times its inverse. -/
theorem inv_mul {a p : Int} (hp : Prm p) (ha : 1 ≤ a ∧ a ≤ p - 1) : Cg p (a * ivV a p) 1 := by
  have hb := hp.bounds
  have e : ivV a p = a ^ (p - 2).toNat % p := by unfold ivV; rw [if_pos ⟨hp, ha⟩]
  rw [e]
  have h1 : Cg p (a * (a ^ (p - 2).toNat % p)) (a * a ^ (p - 2).toNat) := (Cg.refl p a).mul (cg_mod p _)
  have h2 : a * a ^ (p - 2).toNat = a ^ (p - 1).toNat := by
    rw [show (p - 1).toNat = (p - 2).toNat + 1 by omega, Int.pow_succ, Int.mul_comm]
  rw [h2] at h1
  exact h1.trans (fermatZ hp ha)

/-- The inverse is the only one. -/
theorem inv_only {a x p : Int} (hp : Prm p) (ha : 1 ≤ a ∧ a ≤ p - 1) (hx : 0 ≤ x ∧ x ≤ p - 1) (h : Cg p (a * x) 1) : x = ivV a p := by
  have hb := hp.bounds
  have hv := ivV_bounds (a := a) hp
  have h1 := inv_mul hp ha
  have h2 : Cg p (a * x * ivV a p) (ivV a p) := by
    have := h.mul (Cg.refl p (ivV a p))
    rw [Int.one_mul] at this
    exact this
  have h3 : Cg p (a * x * ivV a p) x := by
    have := h1.mul (Cg.refl p x)
    rw [Int.one_mul, Int.mul_right_comm] at this
    exact this
  have := (h3.symm.trans h2).mod_eq
  rw [Int.emod_eq_of_lt hx.1 (by omega), Int.emod_eq_of_lt hv.1 hv.2] at this
  exact this

/-- A power, fast. -/
def fp (x p : Nat) : Nat → Nat → Nat
  | 0, _ => 1 % p
  | f + 1, k => if k = 0 then 1 % p else if k % 2 = 1 then fp x p f (k / 2) * fp x p f (k / 2) % p * x % p else fp x p f (k / 2) * fp x p f (k / 2) % p

theorem fp_eq (x p : Nat) : ∀ f k, k < 2 ^ f → fp x p f k = x ^ k % p
  | 0, k, h => by
    have : k = 0 := by rw [Nat.pow_zero] at h; omega
    subst this
    rfl
  | f + 1, k, h => by
    rw [Nat.pow_succ] at h
    unfold fp
    by_cases h0 : k = 0
    · subst h0; rw [if_pos rfl, Nat.pow_zero]
    · rw [if_neg h0, fp_eq x p f (k / 2) (by omega)]
      have e : x ^ (k / 2) % p * (x ^ (k / 2) % p) % p = x ^ (k / 2 + k / 2) % p := by rw [← Nat.mul_mod, ← Nat.pow_add]
      rw [e]
      by_cases h1 : k % 2 = 1
      · rw [if_pos h1, Nat.mul_mod, Nat.mod_mod, ← Nat.mul_mod, ← Nat.pow_succ]
        congr 2
        omega
      · rw [if_neg h1]
        congr 2
        omega

theorem half_a : 3 ^ 499122176 % 998244353 = 998244352 := by rw [← fp_eq 3 998244353 29 499122176 (by decide)]; decide +kernel
theorem half_b : 3 ^ 83886080 % 167772161 = 167772160 := by rw [← fp_eq 3 167772161 29 83886080 (by decide)]; decide +kernel
theorem half_c : 3 ^ 234881024 % 469762049 = 469762048 := by rw [← fp_eq 3 469762049 29 234881024 (by decide)]; decide +kernel
end Go.Proofs.YtabdondefoldaaaDoor
