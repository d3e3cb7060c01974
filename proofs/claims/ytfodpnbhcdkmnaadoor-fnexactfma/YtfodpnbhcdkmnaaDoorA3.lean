/- A wide number sunk by any count; sums and differences of two words. -/
import Derived.Test.YtfodpnbhcdkmnaaDoorA1
namespace Go.Proofs.YtfodpnbhcdkmnaaDoor
open Go.RowKit

theorem sunk_any (K E : Int) (n : Bool) (N b : Nat) (w : World) (hN : N < 340282366920938463463374607431768211456) (hNb : b ≤ 127 ∨ N < 170141183460469231731687303715884105728) (hb2 : b ≤ 100000) (hE0 : -100000 ≤ E) (hE1 : E ≤ 100000) :
    Calls Tryd.prog 79 #[.agg #[.int .i64 K, .bool n, .int .i64 E, .int .u64 (N / 18446744073709551616 : Nat), .int .u64 (N % 18446744073709551616 : Nat)], .int .i64 (b : Int)] w fun e w' =>
      e = .returned (.agg #[.int .i64 K, .bool n, .int .i64 (E + b), .int .u64 (jam (N / 2 ^ b) (N % 2 ^ b) / 18446744073709551616 : Nat), .int .u64 (jam (N / 2 ^ b) (N % 2 ^ b) % 18446744073709551616 : Nat)]) ∧ Below w.heap.size w w' := by
  have hM : N / 18446744073709551616 < 18446744073709551616 := by omega
  have hlo : N % 18446744073709551616 < 18446744073709551616 := Nat.mod_lt _ (by decide)
  have hs : N / 18446744073709551616 * 18446744073709551616 + N % 18446744073709551616 = N := Nat.div_add_mod' N _
  by_cases h1 : b < 64
  · have := sunk_low K E n _ _ b w hM hlo h1 hE0 hE1
    rw [hs] at this
    exact this
  · by_cases h2 : b ≤ 127
    · obtain ⟨d, rfl⟩ : ∃ d, b = 64 + d := ⟨b - 64, by omega⟩
      have := sunk_far K E n _ _ d (64 + d) w hM hlo (by omega) (Or.inl rfl) hb2 hE0 hE1
      obtain ⟨q1, q2, _⟩ := sink_high hM hlo (show d < 64 by omega)
      rw [hs] at q1 q2
      rw [q1, q2]
      have hlt : jam (N / 18446744073709551616 / 2 ^ d) (N / 18446744073709551616 % 2 ^ d * 18446744073709551616 + N % 18446744073709551616) < 18446744073709551616 := jam_lt (by decide) (Nat.lt_of_le_of_lt (Nat.div_le_self _ _) hM)
      rw [Nat.div_eq_of_lt hlt, Nat.mod_eq_of_lt hlt]
      exact this
    · have hlt : N < 170141183460469231731687303715884105728 := by omega
      have := sunk_far K E n _ _ 63 b w hM hlo (by omega) (Or.inr ⟨rfl, by omega⟩) hb2 hE0 hE1
      have p1 : (2 : Nat) ^ 127 ≤ 2 ^ b := Nat.pow_le_pow_right (by decide) (by omega)
      have hlt2 : N < 2 ^ b := Nat.lt_of_lt_of_le hlt p1
      rw [Nat.div_eq_of_lt hlt2, Nat.mod_eq_of_lt hlt2]
      have m1 : N / 18446744073709551616 / 2 ^ 63 = 0 := Nat.div_eq_of_lt (by omega)
      have m2 : N / 18446744073709551616 % 2 ^ 63 = N / 18446744073709551616 := Nat.mod_eq_of_lt (by omega)
      rw [m1, m2, hs] at this
      have hl3 : jam 0 N < 18446744073709551616 := jam_lt (by decide) (by decide)
      rw [Nat.div_eq_of_lt hl3, Nat.mod_eq_of_lt hl3]
      exact this

theorem run_add64W (x y : Nat) (w : World) : (callFunc 81 #[.int .u64 (x : Int), .int .u64 (y : Int), .int .u64 0]).run Tryd.prog w = .ok (.value (.tuple #[.int .u64 ((x + y) % 18446744073709551616 : Nat), .int .u64 ((x + y) / 18446744073709551616 : Nat)])) w := by
  rw [run_callFunc_extern Tryd.func81 (by kernel_rfl) (by kernel_rfl) (by kernel_rfl) (e := add64Entry) (by kernel_rfl), run_add64 (x : Int) (y : Int) 0 (by omega) (by omega) (by decide) (by decide)]
  rw [Int.add_zero]
  rfl
end Go.Proofs.YtfodpnbhcdkmnaaDoor
