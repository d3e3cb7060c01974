/- The transform: the model's. -/
import Derived.Test.YtabdondefoldaaaDoorR2
import Derived.Test.YtabdondefoldaaaDoorC1
namespace Go.Proofs.YtabdondefoldaaaDoor
open Go.RowKit

/-- A row of residues. -/
abbrev Rwp (n : Nat) (xs : Nat → Int) (p : Int) : Prop := n ≤ 256 ∧ ∀ k, k < n → 0 ≤ xs k ∧ xs k ≤ p - 1

set_option maxHeartbeats 1000000 in
theorem sRow_any {w : World} {v : Value} {n : Nat} {xs : Nat → Int} {p : Int} (hp : 1 ≤ p ∧ p ≤ 998244353) (hv : Il w v n xs) (hn : n ≤ 1048576) : Calls Tryd.prog 37 #[v, .int .i64 p] w fun e w' => e = .returned (.bool (decide (Rwp n xs p))) ∧ w' = w := by
  obtain ⟨ao, cap, rfl, hcap, hc⟩ := hv
  have HC : Hid (0 < n → ∃ b off, ao = some ⟨b, off, none⟩ ∧ b < w.heap.size ∧ ∀ k, k < n → w.cell? ⟨b, off + k, none⟩ = some (.int .i64 (xs k))) := hc
  clear hc
  obtain ⟨d, hd⟩ : ∃ d, d = decide (Rwp n xs p) := ⟨_, rfl⟩
  rw [← hd]
  have HD : Hid _ := hd
  clear hd
  go_enter Tryd.func37, Tryd.ntmps37
  go_wp2
  go_loopw [5] (fun i wr => ∃ k : Nat, i = .int .i64 k ∧ k ≤ n ∧ wr = w ∧ Hid (∀ j, j < k → 0 ≤ xs j ∧ xs j ≤ p - 1)) (fun i _ => n - (intOf i).toNat)
  case atStart => exact ⟨0, rfl, by omega, rfl, fun j hj => by omega⟩
  case round =>
    obtain ⟨k, rfl, hk, hw, hal⟩ := hrel
    obtain rfl := hw.symm
    by_cases h1 : k < n
    · obtain ⟨b, off, rfl, hlt, hcell⟩ := HC.out (by omega)
      have c := hcell k h1
      clear hcell
      have i1 := in_any (xs k) 0 (p - 1)
      by_cases hs : 0 ≤ xs k ∧ xs k ≤ p - 1
      · have HS : Hid _ := hs
        rw [decide_eq_true hs] at i1
        clear hs
        go_wp2_with ((go_at_call 47; (with_reducible refine (i1 _).mono ?_); rintro e w' ⟨rfl, hw⟩; obtain rfl := hw.symm))
        go_roundw
        case rel =>
          refine ⟨k + 1, by go_num, by omega, by trivial, fun j hj => ?_⟩
          by_cases hjk : j = k
          · subst hjk; exact HS.out
          · exact hal.out j (by omega)
        case measure => simp [intOf]; omega
      · have HS : Hid _ := hs
        rw [decide_eq_false hs] at i1
        clear hs
        go_wp2_with ((go_at_call 47; (with_reducible refine (i1 _).mono ?_); rintro e w' ⟨rfl, hw⟩; obtain rfl := hw.symm))
        go_ret
        exact ⟨congrArg (fun z => Ending.returned (.bool z)) (by rw [HD.out]; exact (decide_eq_false (fun h => HS.out (h.2 k h1))).symm), rfl⟩
    · obtain rfl : k = n := by omega
      go_wp2
      go_ret
      refine ⟨congrArg (fun z => Ending.returned (.bool z)) ?_, rfl⟩
      rw [HD.out]
      refine decide_eq_decide.2 ⟨fun h => ⟨by omega, hal.out⟩, fun h => ?_⟩
      have := h.1
      omega

/-- The sum of the transform at a place. -/
def dsum (xs : Nat → Int) (w : Int) (k : Nat) : Nat → Int
  | 0 => 0
  | i + 1 => dsum xs w k i + xs i * w ^ (k * i)

/-- The transform. -/
def dft (xs : Nat → Int) (n : Nat) (w b p : Int) (k : Nat) : Int := dsum xs w k n % p * b % p

theorem step_x (w p : Int) (k i : Nat) : w ^ (k * i) % p * (w ^ k % p) % p = w ^ (k * (i + 1)) % p := by
  rw [← Int.mul_emod, ← Int.pow_add, Nat.mul_succ]

theorem step_w (w p : Int) (k : Nat) : w ^ k % p * w % p = w ^ (k + 1) % p := by
  rw [Int.pow_succ, Int.mul_emod, Int.emod_emod_of_dvd _ (Int.dvd_refl p), ← Int.mul_emod]

theorem step_s (xs : Nat → Int) (w p : Int) (k i : Nat) : (dsum xs w k i % p + xs i * (w ^ (k * i) % p)) % p = dsum xs w k (i + 1) % p := by
  rw [dsum, Int.add_emod, Int.emod_emod_of_dvd _ (Int.dvd_refl p), Int.mul_emod, Int.emod_emod_of_dvd _ (Int.dvd_refl p), ← Int.mul_emod, ← Int.add_emod]

/-- The root of a transform, there and back. -/
def dW (n p : Int) (back : Bool) : Int := if back = true then ivV (unV n p) p else unV n p
/-- What each number is multiplied by. -/
def dB (n p : Int) (back : Bool) : Int := if back = true then ivV n p else 1

theorem pwm_bounds {a p : Int} (hp : Prm p) (k : Nat) : 0 ≤ a ^ k % p ∧ a ^ k % p < p := by
  have := hp.bounds
  exact ⟨Int.emod_nonneg _ (by omega), Int.emod_lt_of_pos _ (by omega)⟩

theorem ivV_bounds {a p : Int} (hp : Prm p) : 0 ≤ ivV a p ∧ ivV a p < p := by
  have := hp.bounds
  unfold ivV
  split
  · exact pwm_bounds hp _
  · omega

theorem unV_bounds {n p : Int} (hp : Prm p) : 0 ≤ unV n p ∧ unV n p < p := by
  have := hp.bounds
  unfold unV
  split
  · exact pwm_bounds hp _
  · omega

theorem dW_bounds {n p : Int} (hp : Prm p) (back : Bool) : 0 ≤ dW n p back ∧ dW n p back < p := by
  unfold dW
  split
  · exact ivV_bounds hp
  · exact unV_bounds hp

theorem dB_bounds {n p : Int} (hp : Prm p) (back : Bool) : 0 ≤ dB n p back ∧ dB n p back < p := by
  have := hp.bounds
  unfold dB
  split
  · exact ivV_bounds hp
  · omega

/-- What is told: a list in memory of the call's own, and a bool. -/
def Pst (w w' : World) (e : Ending) (N : Nat) (ys : Nat → Int) (ok : Bool) : Prop := ∃ u, e = .returned (.tuple #[u, .bool ok]) ∧ w'.ownsRow w.heap.size 3 1 u N (ils ys N) ∧ Below w.heap.size w w'

/-- Good for Dft. -/
abbrev GF (n : Nat) (xs : Nat → Int) (p : Int) : Prop := Prm p ∧ Rwp n xs p ∧ Whl n
end Go.Proofs.YtabdondefoldaaaDoor
