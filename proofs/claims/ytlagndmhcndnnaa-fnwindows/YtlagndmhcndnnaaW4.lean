/- Turn. -/
import Derived.Test.YtlagndmhcndnnaaW3
import Derived.Test.YtlagndmhcndnnaaB1
namespace Go.Proofs.Ytlagndmhcndnnaa
open Go.RowKit

theorem mul_bounds {x c : Int} {A B : Int} (hA : 0 ≤ A) (hx : -A ≤ x ∧ x ≤ A) (hc : -B ≤ c ∧ c ≤ B) : -(A * B) ≤ x * c ∧ x * c ≤ A * B := by
  have hB : 0 ≤ B := by omega
  have h1 : (x * c).natAbs ≤ A.natAbs * B.natAbs := by rw [Int.natAbs_mul]; exact Nat.mul_le_mul (by omega) (by omega)
  have h2 : ((A.natAbs * B.natAbs : Nat) : Int) = A * B := by rw [Int.natCast_mul, Int.natAbs_of_nonneg hA, Int.natAbs_of_nonneg hB]
  omega

/-- What Turn answers. -/
def tnX (x y s : Int) : Int := if Smp x ∧ Smp y then rdV (x * cosv s - y * sinv s) 1073741824 else 0
def tnY (x y s : Int) : Int := if Smp x ∧ Smp y then rdV (x * sinv s + y * cosv s) 1073741824 else 0

theorem turn_facts (x y s : Int) (hx : Smp x) (hy : Smp y) : ∃ c n X Y p1 p2 p3 p4 : Int, cosv s = c ∧ sinv s = n ∧ x * c = p1 ∧ y * n = p2 ∧ x * n = p3 ∧ y * c = p4 ∧ rdV (p1 - p2) 1073741824 = X ∧ rdV (p3 + p4) 1073741824 = Y ∧ tnX x y s = X ∧ tnY x y s = Y ∧ (-1073741824 ≤ c ∧ c ≤ 1073741824) ∧ (-1073741824 ≤ n ∧ n ≤ 1073741824) ∧ (-1073741824000000000 ≤ p1 ∧ p1 ≤ 1073741824000000000) ∧ (-1073741824000000000 ≤ p2 ∧ p2 ≤ 1073741824000000000) ∧ (-1073741824000000000 ≤ p3 ∧ p3 ≤ 1073741824000000000) ∧ (-1073741824000000000 ≤ p4 ∧ p4 ≤ 1073741824000000000) :=
  ⟨_, _, _, _, _, _, _, _, rfl, rfl, rfl, rfl, rfl, rfl, rfl, rfl, by unfold tnX; rw [if_pos ⟨hx, hy⟩], by unfold tnY; rw [if_pos ⟨hx, hy⟩], cosv_bounds s, sinv_bounds s,
    mul_bounds (A := 1000000000) (B := 1073741824) (by decide) hx (cosv_bounds s), mul_bounds (A := 1000000000) (B := 1073741824) (by decide) hy (sinv_bounds s), mul_bounds (A := 1000000000) (B := 1073741824) (by decide) hx (sinv_bounds s), mul_bounds (A := 1000000000) (B := 1073741824) (by decide) hy (cosv_bounds s)⟩

end Go.Proofs.Ytlagndmhcndnnaa
