/- Plain facts: a number is an odd one times a power of two in one way alone. -/
import Derived.Test.YtcpnmcfpnhokgaaDoorPlain
namespace Go.Proofs.YtcpnmcfpnhokgaaDoor

/-- m is man times 2^k. -/
structure Tz (m man : Int) (k : Nat) : Prop where
  pos : 1 ≤ man
  eq : m = man * ((2 ^ k : Nat) : Int)

theorem Tz.start {m : Int} (h : 1 ≤ m) : Tz m m 0 := ⟨h, by simp⟩

theorem Tz.step {m man : Int} {k : Nat} (h : Tz m man k) (he : man % 2 = 0) : Tz m (man / 2) (k + 1) := by
  refine ⟨by have := h.pos; omega, ?_⟩
  rw [h.eq, Nat.pow_succ]
  have e : man = man / 2 * 2 := by omega
  generalize man / 2 = q at e
  subst e
  push_cast
  rw [Int.mul_assoc, Int.mul_comm 2]

theorem Tz.le {m man : Int} {k : Nat} (h : Tz m man k) (hm : m < 18446744073709551616) : k ≤ 63 ∧ man ≤ m := by
  have hp := h.pos
  have he := h.eq
  have h1 : (1 : Int) ≤ ((2 ^ k : Nat) : Int) := by exact_mod_cast Nat.one_le_two_pow
  have h2 : ((2 ^ k : Nat) : Int) ≤ m := by
    rw [he]
    have := Int.mul_le_mul_of_nonneg_right hp (show (0 : Int) ≤ ((2 ^ k : Nat) : Int) by omega)
    omega
  have h3 : man ≤ m := by
    rw [he]
    have := Int.mul_le_mul_of_nonneg_left h1 (show (0 : Int) ≤ man by omega)
    omega
  refine ⟨?_, h3⟩
  apply Nat.le_of_lt_succ
  apply (Nat.pow_lt_pow_iff_right (a := 2) (by omega)).1
  have : ((2 ^ k : Nat) : Int) < ((2 ^ 64 : Nat) : Int) := by
    have e : ((2 ^ 64 : Nat) : Int) = 18446744073709551616 := rfl
    rw [e]; omega
  exact_mod_cast this

theorem Tz.unique {m a b : Int} {j k : Nat} (h : Tz m a j) (g : Tz m b k) (ha : a % 2 = 1) (hb : b % 2 = 1) : a = b ∧ j = k := by
  have key : ∀ {a b : Int} {j k : Nat}, Tz m a j → Tz m b k → a % 2 = 1 → j ≤ k → a = b ∧ j = k := by
    intro a b j k h g ha hjk
    obtain ⟨d, rfl⟩ := Nat.exists_eq_add_of_le hjk
    have e := h.eq.symm.trans g.eq
    rw [Nat.pow_add] at e
    have hp : ((2 ^ j : Nat) : Int) ≠ 0 := by
      have : (1 : Int) ≤ ((2 ^ j : Nat) : Int) := by exact_mod_cast Nat.one_le_two_pow
      omega
    have e2 : a = b * ((2 ^ d : Nat) : Int) := by
      apply Int.eq_of_mul_eq_mul_right hp
      rw [e]
      push_cast
      rw [Int.mul_comm ((2 : Int) ^ j), ← Int.mul_assoc]
    cases d with
    | zero => simp at e2; exact ⟨e2, rfl⟩
    | succ d =>
      rw [Nat.pow_succ] at e2
      exfalso
      push_cast at e2
      rw [← Int.mul_assoc] at e2
      omega
  rcases Nat.le_total j k with hjk | hjk
  · exact key h g ha hjk
  · obtain ⟨x, y⟩ := key g h hb hjk
    exact ⟨x.symm, y.symm⟩
end Go.Proofs.YtcpnmcfpnhokgaaDoor
