/- What foretells a sample, what is left, and what comes back: in plain numbers. -/
import Derived.Test.YtndagpompioooaaDoorB1
namespace Go.Proofs.YtndagpompioooaaDoor
open Go.RowKit

/-- What foretells the k-th of a list by an order: by those ahead of it. -/
def fore (o : Nat) (xs : Nat → Int) (k : Nat) : Int :=
  if min o k = 1 then xs (k - 1) else if min o k = 2 then 2 * xs (k - 1) - xs (k - 2) else if min o k = 3 then 3 * (xs (k - 1) - xs (k - 2)) + xs (k - 3) else 0

theorem fore_congr {o : Nat} {xs ys : Nat → Int} {k : Nat} (h : ∀ j, j < k → xs j = ys j) : fore o xs k = fore o ys k := by
  unfold fore
  by_cases h1 : min o k = 1
  · rw [if_pos h1, if_pos h1, h (k - 1) (by omega)]
  · rw [if_neg h1, if_neg h1]
    by_cases h2 : min o k = 2
    · rw [if_pos h2, if_pos h2, h (k - 1) (by omega), h (k - 2) (by omega)]
    · rw [if_neg h2, if_neg h2]
      by_cases h3 : min o k = 3
      · rw [if_pos h3, if_pos h3, h (k - 1) (by omega), h (k - 2) (by omega), h (k - 3) (by omega)]
      · rw [if_neg h3, if_neg h3]

theorem fore_bounds {o : Nat} {xs : Nat → Int} {k : Nat} (h : ∀ j, j < k → Smp (xs j)) : -7000000000 ≤ fore o xs k ∧ fore o xs k ≤ 7000000000 := by
  unfold fore
  by_cases h1 : min o k = 1
  · rw [if_pos h1]
    have a1 := h (k - 1) (by omega)
    exact ⟨by omega, by omega⟩
  · rw [if_neg h1]
    by_cases h2 : min o k = 2
    · rw [if_pos h2]
      have a1 := h (k - 1) (by omega)
      have a2 := h (k - 2) (by omega)
      exact ⟨by omega, by omega⟩
    · rw [if_neg h2]
      by_cases h3 : min o k = 3
      · rw [if_pos h3]
        have a1 := h (k - 1) (by omega)
        have a2 := h (k - 2) (by omega)
        have a3 := h (k - 3) (by omega)
        exact ⟨by omega, by omega⟩
      · rw [if_neg h3]
        exact ⟨by omega, by omega⟩

theorem fore_0 {o : Nat} {xs : Nat → Int} {k : Nat} (h : o = 0 ∨ k = 0) : fore o xs k = 0 := by
  unfold fore
  rw [if_neg (by omega), if_neg (by omega), if_neg (by omega)]
theorem fore_1 {o : Nat} {xs : Nat → Int} {k : Nat} (h : min o (k + 1) = 1) : fore o xs (k + 1) = xs k := by
  unfold fore
  rw [if_pos h]; rfl
theorem fore_2 {o : Nat} {xs : Nat → Int} {k : Nat} (h : min o (k + 2) = 2) : fore o xs (k + 2) = 2 * xs (k + 1) - xs k := by
  unfold fore
  rw [if_neg (by omega), if_pos h]; rfl
theorem fore_3 {o : Nat} {xs : Nat → Int} {k : Nat} (h : min o (k + 3) = 3) : fore o xs (k + 3) = 3 * (xs (k + 2) - xs (k + 1)) + xs k := by
  unfold fore
  rw [if_neg (by omega), if_neg (by omega), if_pos h]; rfl

/-- What is left. -/
def gus (o : Nat) (xs : Nat → Int) (k : Nat) : Int := xs k - fore o xs k

/-- What comes back: the first K of it. -/
def ugk (o : Nat) (xs : Nat → Int) : Nat → Nat → Int
  | 0 => fun _ => 0
  | k + 1 => fun j => if j = k then xs k + fore o (ugk o xs k) k else ugk o xs k j

def ugf (o : Nat) (xs : Nat → Int) (k : Nat) : Int := ugk o xs (k + 1) k

theorem ugk_low (o : Nat) (xs : Nat → Int) (K j : Nat) (h : j < K) : ugk o xs K j = ugf o xs j := by
  induction K with
  | zero => omega
  | succ K ih =>
    by_cases hj : j = K
    · subst hj; rfl
    · show (if j = K then _ else ugk o xs K j) = _
      rw [if_neg hj]
      exact ih (by omega)

theorem ugf_eq (o : Nat) (xs : Nat → Int) (k : Nat) : ugf o xs k = xs k + fore o (ugf o xs) k := by
  show (if k = k then xs k + fore o (ugk o xs k) k else ugk o xs k k) = _
  rw [if_pos rfl, fore_congr (fun j hj => ugk_low o xs k j hj)]

/-- What is left comes back. -/
theorem ugf_gus (o : Nat) (xs : Nat → Int) (k : Nat) : ugf o (gus o xs) k = xs k := by
  induction k using Nat.strongRecOn with
  | _ k ih =>
    rw [ugf_eq, fore_congr ih]
    show xs k - fore o xs k + fore o xs k = xs k
    omega

theorem gus_bounds {o n : Nat} {xs : Nat → Int} (h : Sig n xs) {k : Nat} (hk : k < n) : -8000000000 ≤ gus o xs k ∧ gus o xs k ≤ 8000000000 := by
  have a := fore_bounds (o := o) (fun j hj => h.2 j (Nat.lt_trans hj hk))
  have b := h.2 k hk
  unfold gus
  exact ⟨by omega, by omega⟩
end Go.Proofs.YtndagpompioooaaDoor
