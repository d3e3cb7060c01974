/- Sums and differences with a number whose lost bits are kept as one. -/
import Derived.Test.YtfodpnbhcdkmnaaDoorJ0
namespace Go.Proofs.YtfodpnbhcdkmnaaDoor

/-- An even number and one that is jammed: the sum, jammed. -/
theorem jam_add {X Y r C : Nat} (hX : X % 2 = 0) (hr : r < C) : jam ((X * C + (Y * C + r)) / C) ((X * C + (Y * C + r)) % C) = X + jam Y r := by
  have hC : 0 < C := by omega
  have e : X * C + (Y * C + r) = r + C * (X + Y) := by rw [Nat.mul_add, Nat.mul_comm C X, Nat.mul_comm C Y]; omega
  rw [e, Nat.add_mul_div_left _ _ hC, Nat.add_mul_mod_self_left, Nat.div_eq_of_lt hr, Nat.mod_eq_of_lt hr]
  unfold jam
  split <;> omega

/-- An even number less one that is jammed: the difference, jammed. -/
theorem jam_sub {X Y r C : Nat} (hX : X % 2 = 0) (hr : r < C) (hle : Y * C + r ≤ X * C) : jam ((X * C - (Y * C + r)) / C) ((X * C - (Y * C + r)) % C) = X - jam Y r := by
  have hC : 0 < C := by omega
  by_cases h0 : r = 0
  · subst h0
    rw [Nat.add_zero, ← Nat.sub_mul, Nat.mul_div_cancel _ hC, Nat.mul_mod_left]
    simp [jam]
  · have hlt : Y < X := by
      rcases Nat.lt_or_ge Y X with h | h
      · exact h
      · have := Nat.mul_le_mul_right C h
        omega
    obtain ⟨d, rfl⟩ : ∃ d, X = Y + 1 + d := ⟨X - (Y + 1), by omega⟩
    have e : (Y + 1 + d) * C - (Y * C + r) = (C - r) + C * d := by
      rw [Nat.add_mul, Nat.add_mul, Nat.one_mul, Nat.mul_comm d C]
      omega
    have hl : C - r < C := by omega
    rw [e, Nat.add_mul_div_left _ _ hC, Nat.add_mul_mod_self_left, Nat.div_eq_of_lt hl, Nat.mod_eq_of_lt hl]
    unfold jam
    rw [if_neg (by omega), if_neg h0]
    omega
end Go.Proofs.YtfodpnbhcdkmnaaDoor
