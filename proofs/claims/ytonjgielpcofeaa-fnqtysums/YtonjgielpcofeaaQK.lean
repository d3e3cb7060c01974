/- Sums: numbers with noughts. -/
import Derived.Test.YtonjgielpcofeaaQI
namespace Go.Proofs.Ytonjgielpcofeaa
open Go.RowKit

theorem ten_room {n : Int} {j : Nat} (hn : -1000000000 ≤ n ∧ n ≤ 1000000000) (hj : j ≤ 9) : -1000000000000000000 ≤ n * 10 ^ j ∧ n * 10 ^ j ≤ 1000000000000000000 := by
  have h1 : n.natAbs ≤ 1000000000 := by omega
  have h2 : (10 : Nat) ^ j ≤ 10 ^ 9 := Nat.pow_le_pow_right (by decide) hj
  have h3 : (n * 10 ^ j).natAbs ≤ 1000000000 * 10 ^ 9 := by
    rw [Int.natAbs_mul, Int.natAbs_pow]
    exact Nat.mul_le_mul h1 h2
  have h4 : (1000000000 : Nat) * 10 ^ 9 = 1000000000000000000 := by decide
  omega

theorem ten_next (n : Int) (j : Nat) : n * 10 ^ (j + 1) = n * 10 ^ j * 10 := by rw [Int.pow_succ, Int.mul_assoc]

/-- Of ten that come behind. -/
theorem iOver_any (n p v s pow : Int) (k : Nat) (hk : p - pow = k) (hk9 : k ≤ 9) (hn : -1000000000 ≤ n ∧ n ≤ 1000000000) (_ : -1000 ≤ p ∧ p ≤ 1000) (w : World) : Calls Try.prog 24 #[.agg #[.int .i64 n, .int .i64 p, .int .i64 v, .int .i64 s], .int .i64 pow] w fun e w' => e = .returned (.int .i64 (n * 10 ^ k)) ∧ Below w.heap.size w w' := by
  have B0 : Hid (Below w.heap.size w ((w).alloc (.cells #[.int .i64 n, .int .i64 p, .int .i64 v, .int .i64 s] 25))) := below_one w _
  have e0 : p - pow = k := hk
  go_enter Try.func24, Try.ntmps24
  go_wp2
  go_loopw [5, 12] (fun a i wr => ∃ j : Nat, a = .int .i64 (n * 10 ^ j) ∧ i = .int .i64 j ∧ j ≤ k ∧ wr = (w).alloc (.cells #[.int .i64 n, .int .i64 p, .int .i64 v, .int .i64 s] 25)) (fun _ i _ => k - (intOf i).toNat)
  case atStart => exact ⟨0, by simp, by simp, by omega, rfl⟩
  case round =>
    obtain ⟨j, rfl, rfl, hj, rfl⟩ := hrel
    by_cases h1 : j < k
    · have h3 := ten_room (j := j + 1) hn (by omega)
      have h2 := ten_next n j
      have h4 : -1000000000000000000 ≤ n * 10 ^ j * 10 ∧ n * 10 ^ j * 10 ≤ 1000000000000000000 := by rw [← h2]; exact h3
      have H2 : Hid (n * 10 ^ (j + 1) = n * 10 ^ j * 10) := h2
      clear h2 h3
      go_wp2
      go_roundw
      case rel => exact ⟨j + 1, by rw [H2.out], by go_num, by omega, by trivial⟩
      case measure => simp [intOf]; omega
    · obtain rfl : j = k := by omega
      go_wp2
      go_ret
      exact ⟨rfl, B0.out⟩

end Go.Proofs.Ytonjgielpcofeaa
