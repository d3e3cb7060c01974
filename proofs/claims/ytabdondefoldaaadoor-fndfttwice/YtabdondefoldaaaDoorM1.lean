/- Plain numbers: the three primes are such; a number not 0 to the power p - 1 is 1 modulo a prime p. -/
import Derived.Test.YtabdondefoldaaaDoorR1
namespace Go.Proofs.YtabdondefoldaaaDoor

/-- None of lo .. lo + 2 ^ k - 1 divides p. -/
def chk (p : Nat) : Nat → Nat → Bool
  | 0, lo => p % lo != 0
  | k + 1, lo => chk p k lo && chk p k (lo + 2 ^ k)

theorem chk_spec (p : Nat) : ∀ (k lo : Nat), chk p k lo = true → ∀ d, lo ≤ d → d < lo + 2 ^ k → p % d ≠ 0
  | 0, lo, h, d, h0, h1 => by
    have : d = lo := by rw [Nat.pow_zero] at h1; omega
    subst this
    simpa [chk] using h
  | k + 1, lo, h, d, h0, h1 => by
    simp only [chk, Bool.and_eq_true] at h
    by_cases c : d < lo + 2 ^ k
    · exact chk_spec p k lo h.1 d h0 c
    · rw [Nat.pow_succ] at h1
      exact chk_spec p k (lo + 2 ^ k) h.2 d (by omega) (by omega)

/-- No number but 1 and p divides p. -/
def Pri (p : Nat) : Prop := 2 ≤ p ∧ ∀ d, 2 ≤ d → d < p → p % d ≠ 0

theorem pri_of {p k : Nat} (hp : 2 ≤ p) (h : chk p k 2 = true) (hk : p < (2 + 2 ^ k) * (2 + 2 ^ k)) : Pri p := by
  refine ⟨hp, fun d h2 hd h0 => ?_⟩
  have e := Nat.div_add_mod p d
  rw [h0, Nat.add_zero] at e
  generalize p / d = q at e
  by_cases c : d < 2 + 2 ^ k
  · exact chk_spec p k 2 h d h2 c h0
  · by_cases c2 : q < 2 + 2 ^ k
    · have h3 : 2 ≤ q := by
        rcases Nat.lt_or_ge q 2 with h4 | h4
        · exfalso
          have : q = 0 ∨ q = 1 := by omega
          rcases this with h5 | h5
          · rw [h5, Nat.mul_zero] at e; omega
          · rw [h5, Nat.mul_one] at e; omega
        · exact h4
      have h6 : p % q = 0 := by
        have := Nat.mul_mod_left d q
        rw [e] at this
        exact this
      exact chk_spec p k 2 h q h3 c2 h6
    · have := Nat.mul_le_mul (Nat.le_of_not_lt c) (Nat.le_of_not_lt c2)
      rw [e] at this
      omega

theorem pri_a : Pri 998244353 := pri_of (k := 15) (by decide) (by decide +kernel) (by decide)
theorem pri_b : Pri 167772161 := pri_of (k := 14) (by decide) (by decide +kernel) (by decide)
theorem pri_c : Pri 469762049 := pri_of (k := 15) (by decide) (by decide +kernel) (by decide)

theorem Pri.coprime {p a : Nat} (hp : Pri p) (h0 : 0 < a) (h1 : a < p) : Nat.Coprime p a := by
  have hg : Nat.gcd p a ∣ p := Nat.gcd_dvd_left p a
  have ha : Nat.gcd p a ∣ a := Nat.gcd_dvd_right p a
  have hle := Nat.le_of_dvd h0 ha
  have hpos : 0 < Nat.gcd p a := Nat.gcd_pos_of_pos_right p h0
  show Nat.gcd p a = 1
  rcases Nat.lt_or_ge (Nat.gcd p a) 2 with h | h
  · omega
  · exact absurd (Nat.mod_eq_zero_of_dvd hg) (hp.2 _ h (by omega))

/-- How many choices of k out of n. -/
def ch : Nat → Nat → Nat
  | _, 0 => 1
  | 0, _ + 1 => 0
  | n + 1, k + 1 => ch n k + ch n (k + 1)

theorem ch_zero (n : Nat) : ch n 0 = 1 := by cases n <;> rfl
theorem ch_over : ∀ n k, n < k → ch n k = 0
  | 0, k + 1, _ => rfl
  | n + 1, k + 1, h => by rw [ch, ch_over n k (by omega), ch_over n (k + 1) (by omega)]
theorem ch_self : ∀ n, ch n n = 1
  | 0 => rfl
  | n + 1 => by rw [ch, ch_self n, ch_over n (n + 1) (by omega)]

theorem ch_mul : ∀ n k, (k + 1) * ch (n + 1) (k + 1) = (n + 1) * ch n k
  | 0, 0 => rfl
  | 0, k + 1 => by simp [ch]
  | n + 1, 0 => by
    have h := ch_mul n 0
    have e : ch (n + 1 + 1) (0 + 1) = ch (n + 1) 0 + ch (n + 1) (0 + 1) := rfl
    rw [e, ch_zero]
    rw [ch_zero] at h
    omega
  | n + 1, k + 1 => by
    have h1 := ch_mul n k
    have h2 := ch_mul n (k + 1)
    have e : ch (n + 1) (k + 1) = ch n k + ch n (k + 1) := rfl
    have e2 : ch (n + 1 + 1) (k + 1 + 1) = ch (n + 1) (k + 1) + ch (n + 1) (k + 1 + 1) := rfl
    rw [e2, Nat.mul_add, h2]
    have e3 : (k + 1 + 1) * ch (n + 1) (k + 1) = (n + 1) * ch n k + ch (n + 1) (k + 1) := by
      rw [← h1, Nat.add_mul (k + 1) 1, Nat.one_mul]
    rw [e3]
    have e4 : (n + 1 + 1) * ch (n + 1) (k + 1) = (n + 1) * ch n k + (n + 1) * ch n (k + 1) + ch (n + 1) (k + 1) := by
      rw [Nat.add_mul (n + 1) 1, Nat.one_mul]
      conv => lhs; lhs; rw [e, Nat.mul_add]
    rw [e4]
    omega

/-- The first m terms of the power of a sum. -/
def bs (a n : Nat) : Nat → Nat
  | 0 => 0
  | m + 1 => bs a n m + ch n m * a ^ m

theorem bs_step (a n : Nat) : ∀ m, bs a (n + 1) (m + 1) = bs a n (m + 1) + a * bs a n m
  | 0 => by simp [bs, ch_zero]
  | m + 1 => by
    rw [bs, bs_step a n m, bs, bs, bs, ch, Nat.add_mul, Nat.mul_add]
    have : a * (ch n m * a ^ m) = ch n m * a ^ (m + 1) := by rw [Nat.pow_succ, Nat.mul_left_comm, Nat.mul_comm a]
    rw [this]
    omega

theorem binom (a : Nat) : ∀ n, (a + 1) ^ n = bs a n (n + 1)
  | 0 => by simp [bs, ch]
  | n + 1 => by
    rw [Nat.pow_succ, binom a n, bs_step]
    have : bs a n (n + 1 + 1) = bs a n (n + 1) := by rw [bs, ch_over n (n + 1) (by omega), Nat.zero_mul, Nat.add_zero]
    rw [this, Nat.mul_add, Nat.mul_one, Nat.mul_comm]
    omega

theorem bs_mod {p : Nat} (hp : Pri p) (a : Nat) : ∀ m, m < p → bs a p (m + 1) % p = 1
  | 0, _ => by
    have := hp.1
    simp only [bs, ch_zero, Nat.pow_zero, Nat.mul_one, Nat.zero_add]
    exact Nat.mod_eq_of_lt (by omega)
  | m + 1, h => by
    have ih := bs_mod hp a m (by omega)
    obtain ⟨q, rfl⟩ : ∃ q, p = q + 1 := ⟨p - 1, by omega⟩
    have e := ch_mul q m
    have hd : (q + 1) ∣ ch (q + 1) (m + 1) := by
      have h1 : (q + 1) ∣ (m + 1) * ch (q + 1) (m + 1) := ⟨ch q m, e⟩
      exact Nat.Coprime.dvd_of_dvd_mul_left (hp.coprime (by omega) h) h1
    rw [bs, Nat.add_mod, ih, Nat.mul_mod, Nat.mod_eq_zero_of_dvd hd, Nat.zero_mul, Nat.zero_mod, Nat.add_zero]
    exact Nat.mod_eq_of_lt (by have := hp.1; omega)

theorem pow_p {p : Nat} (hp : Pri p) : ∀ a, a ^ p % p = a % p
  | 0 => by rw [Nat.zero_pow (by have := hp.1; omega)]
  | a + 1 => by
    have ih := pow_p hp a
    have h2 := hp.1
    obtain ⟨q, hq⟩ : ∃ q, p = q + 1 := ⟨p - 1, by omega⟩
    have hb := bs_mod hp a q (by omega)
    rw [binom, bs, ch_self, Nat.one_mul, Nat.add_mod, ih]
    rw [← hq] at hb
    rw [hb, Nat.add_comm 1 (a % p), Nat.mod_add_mod]

/-- A number not 0, to the power p - 1. -/
theorem fermat {p a : Nat} (hp : Pri p) (h0 : 0 < a) (h1 : a < p) : a ^ (p - 1) % p = 1 := by
  have h2 := hp.1
  have hpos : 0 < a ^ (p - 1) := Nat.pow_pos h0
  have e := pow_p hp a
  have es : a ^ p = a * a ^ (p - 1) := by
    obtain ⟨q, rfl⟩ : ∃ q, p = q + 1 := ⟨p - 1, by omega⟩
    rw [Nat.pow_succ, Nat.mul_comm, Nat.add_sub_cancel]
  have hd : p ∣ a * (a ^ (p - 1) - 1) := by
    rw [Nat.mul_sub, Nat.mul_one, ← es]
    exact Nat.dvd_of_mod_eq_zero (Nat.sub_mod_eq_zero_of_mod_eq e)
  have hd2 : p ∣ a ^ (p - 1) - 1 := Nat.Coprime.dvd_of_dvd_mul_left (hp.coprime h0 h1) hd
  obtain ⟨t, ht⟩ := hd2
  have : a ^ (p - 1) = p * t + 1 := by omega
  rw [this, Nat.mul_add_mod]
  exact Nat.mod_eq_of_lt (by omega)
end Go.Proofs.YtabdondefoldaaaDoor
