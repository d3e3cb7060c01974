/- The transform, in plain numbers. -/
import Derived.Test.YtacenbapmelncaaDoorR2
namespace Go.Proofs.YtacenbapmelncaaDoor
open Go.RowKit

/-- The sum of the transform at a place. -/
def dsum (xs : Nat → Int) (w : Int) (k : Nat) : Nat → Int
  | 0 => 0
  | i + 1 => dsum xs w k i + xs i * w ^ (k * i)

/-- The transform. -/
def dft (xs : Nat → Int) (n : Nat) (w b p : Int) (k : Nat) : Int := dsum xs w k n % p * b % p

theorem step_x (w p : Int) (k i : Nat) : w ^ (k * i) % p * (w ^ k % p) % p = w ^ (k * (i + 1)) % p := by
  rw [← Int.mul_emod, ← Int.pow_add, Nat.mul_succ]

theorem step_w (w p : Int) (k : Nat) : w ^ k % p * w % p = w ^ (k + 1) % p := by
  rw [Int.pow_succ, Int.mul_emod, Int.emod_emod_of_dvd _ (Int.dvd_refl p), ← Int.mul_emod]

theorem step_s (xs : Nat → Int) (w p : Int) (k i : Nat) : (dsum xs w k i % p + xs i * (w ^ (k * i) % p)) % p = dsum xs w k (i + 1) % p := by
  rw [dsum, Int.add_emod, Int.emod_emod_of_dvd _ (Int.dvd_refl p), Int.mul_emod, Int.emod_emod_of_dvd _ (Int.dvd_refl p), ← Int.mul_emod, ← Int.add_emod]

/-- The root of a transform, there and back. -/
def dW (n p : Int) (back : Bool) : Int := if back = true then ivV (unV n p) p else unV n p
/-- What each number is multiplied by. -/
def dB (n p : Int) (back : Bool) : Int := if back = true then ivV n p else 1

theorem pwm_bounds {a p : Int} (hp : Prm p) (k : Nat) : 0 ≤ a ^ k % p ∧ a ^ k % p < p := by
  have := hp.bounds
  exact ⟨Int.emod_nonneg _ (by omega), Int.emod_lt_of_pos _ (by omega)⟩

theorem ivV_bounds {a p : Int} (hp : Prm p) : 0 ≤ ivV a p ∧ ivV a p < p := by
  have := hp.bounds
  unfold ivV
  split
  · exact pwm_bounds hp _
  · omega

theorem unV_bounds {n p : Int} (hp : Prm p) : 0 ≤ unV n p ∧ unV n p < p := by
  have := hp.bounds
  unfold unV
  split
  · exact pwm_bounds hp _
  · omega

theorem dW_bounds {n p : Int} (hp : Prm p) (back : Bool) : 0 ≤ dW n p back ∧ dW n p back < p := by
  unfold dW
  split
  · exact ivV_bounds hp
  · exact unV_bounds hp

theorem dB_bounds {n p : Int} (hp : Prm p) (back : Bool) : 0 ≤ dB n p back ∧ dB n p back < p := by
  have := hp.bounds
  unfold dB
  split
  · exact ivV_bounds hp
  · omega

end Go.Proofs.YtacenbapmelncaaDoor
