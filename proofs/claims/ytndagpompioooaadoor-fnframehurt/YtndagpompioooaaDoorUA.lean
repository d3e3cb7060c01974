/- Numbers read out of bits, in plain numbers. -/
import Derived.Test.YtndagpompioooaaDoorX0
namespace Go.Proofs.YtndagpompioooaaDoor
open Go.RowKit

/-- How many ones stand from a on, below n: at most f are asked. -/
def ons (b : Nat → Int) (n a : Nat) : Nat → Nat
  | 0 => 0
  | f + 1 => if a < n ∧ b a = 1 then ons b n (a + 1) f + 1 else 0
def run1 (b : Nat → Int) (n a : Nat) : Nat := ons b n a (n - a)

theorem ons_ge {b : Nat → Int} {n : Nat} (q : Nat) : ∀ (a f : Nat), q ≤ f → a + q ≤ n → (∀ j, j < q → b (a + j) = 1) → q ≤ ons b n a f := by
  induction q with
  | zero => intro a f _ _ _; exact Nat.zero_le _
  | succ q ih =>
    intro a f hf hn h
    obtain ⟨f, rfl⟩ : ∃ g, f = g + 1 := ⟨f - 1, by omega⟩
    have h0 := h 0 (by omega)
    rw [Nat.add_zero] at h0
    rw [ons, if_pos ⟨by omega, h0⟩]
    have := ih (a + 1) f (by omega) (by omega) (fun j hj => by have := h (j + 1) (by omega); rw [show a + (j + 1) = a + 1 + j by omega] at this; exact this)
    omega

theorem ons_stop {b : Nat → Int} {n : Nat} (q : Nat) : ∀ (a f : Nat), (∀ j, j < q → b (a + j) = 1) → (n ≤ a + q ∨ b (a + q) ≠ 1) → ons b n a f ≤ q := by
  induction q with
  | zero =>
    intro a f _ h
    rw [Nat.add_zero] at h
    cases f with
    | zero => exact Nat.le_refl _
    | succ f =>
      rw [ons, if_neg (fun h2 => h.elim (fun h3 => by omega) (fun h3 => h3 h2.2))]
      exact Nat.le_refl _
  | succ q ih =>
    intro a f h hs
    cases f with
    | zero => exact Nat.zero_le _
    | succ f =>
      rw [ons]
      split
      · have := ih (a + 1) f (fun j hj => by have := h (j + 1) (by omega); rw [show a + (j + 1) = a + 1 + j by omega] at this; exact this) (by rw [show a + 1 + q = a + (q + 1) by omega]; exact hs)
        omega
      · omega

theorem run1_ge {b : Nat → Int} {n a q : Nat} (hn : a + q ≤ n) (h : ∀ j, j < q → b (a + j) = 1) : q ≤ run1 b n a := ons_ge q a (n - a) (by omega) hn h
theorem run1_eq {b : Nat → Int} {n a q : Nat} (hn : a + q ≤ n) (h : ∀ j, j < q → b (a + j) = 1) (hs : n ≤ a + q ∨ b (a + q) ≠ 1) : run1 b n a = q :=
  Nat.le_antisymm (ons_stop q a _ h hs) (run1_ge hn h)

/-- c bits from f on as a number, the highest first. -/
def bv (b : Nat → Int) (f : Nat) : Nat → Nat
  | 0 => 0
  | c + 1 => bv b f c * 2 + (b (f + c)).toNat

theorem bv_lt {b : Nat → Int} {f : Nat} (c : Nat) (h : ∀ j, j < c → Bit (b (f + j))) : bv b f c < 2 ^ c := by
  induction c with
  | zero => show 0 < 1; omega
  | succ c ih =>
    have h1 := ih (fun j hj => h j (by omega))
    rw [bv, Nat.pow_succ]
    rcases h c (by omega) with e | e <;> rw [e]
    · show bv b f c * 2 + 0 < _; omega
    · show bv b f c * 2 + 1 < _; omega

/-- What one number reads: the folded number, and the place behind it. -/
def rd1 (b : Nat → Int) (n k a : Nat) : Option (Nat × Nat) :=
  if a + run1 b n a < n ∧ b (a + run1 b n a) = 0 ∧ run1 b n a * 2 ^ k ≤ 2000000000 ∧ a + run1 b n a + 1 + k ≤ n ∧ (∀ j, j < k → Bit (b (a + run1 b n a + 1 + j))) ∧ run1 b n a * 2 ^ k + bv b (a + run1 b n a + 1) k ≤ 2000000000
  then some (run1 b n a * 2 ^ k + bv b (a + run1 b n a + 1) k, a + run1 b n a + 1 + k) else none

theorem rd1_yes {b : Nat → Int} {n k a q : Nat} (hr : run1 b n a = q) (h1 : a + q < n) (h2 : b (a + q) = 0) (h3 : q * 2 ^ k ≤ 2000000000) (h4 : a + q + 1 + k ≤ n) (h5 : ∀ j, j < k → Bit (b (a + q + 1 + j))) (h6 : q * 2 ^ k + bv b (a + q + 1) k ≤ 2000000000) : rd1 b n k a = some (q * 2 ^ k + bv b (a + q + 1) k, a + q + 1 + k) := by
  subst hr
  unfold rd1
  rw [if_pos ⟨h1, h2, h3, h4, h5, h6⟩]

theorem rd1_no {b : Nat → Int} {n k a q : Nat} (hr : run1 b n a = q) (h : ¬ (a + q < n ∧ b (a + q) = 0 ∧ q * 2 ^ k ≤ 2000000000 ∧ a + q + 1 + k ≤ n ∧ (∀ j, j < k → Bit (b (a + q + 1 + j))) ∧ q * 2 ^ k + bv b (a + q + 1) k ≤ 2000000000)) : rd1 b n k a = none := by
  subst hr
  unfold rd1
  rw [if_neg h]

/-- A row of ones that is too long. -/
theorem rd1_long {b : Nat → Int} {n k a q : Nat} (hn : a + q ≤ n) (h : ∀ j, j < q → b (a + j) = 1) (hl : 2000000000 < q * 2 ^ k) : rd1 b n k a = none := by
  refine rd1_no rfl (fun h2 => ?_)
  have h3 := Nat.mul_le_mul_right (2 ^ k) (run1_ge hn h)
  have h4 := h2.2.2.1
  omega

theorem run1_ones (b : Nat → Int) (n a : Nat) : ∀ j, j < run1 b n a → b (a + j) = 1 := by
  have key : ∀ (f a j : Nat), j < ons b n a f → b (a + j) = 1 := by
    intro f
    induction f with
    | zero => intro a j hj; exact absurd hj (Nat.not_lt_zero _)
    | succ f ih =>
      intro a j hj
      rw [ons] at hj
      split at hj
      · rename_i h
        cases j with
        | zero => exact h.2
        | succ j => have := ih (a + 1) j (by omega); rw [show a + 1 + j = a + (j + 1) by omega] at this; exact this
      · exact absurd hj (Nat.not_lt_zero _)
  exact fun j hj => key _ a j hj

theorem rd1_told {b : Nat → Int} {n k a u a' : Nat} (h : rd1 b n k a = some (u, a')) : u ≤ 2000000000 ∧ a < a' ∧ a' ≤ n ∧ ∀ i, a ≤ i → i < a' → Bit (b i) := by
  unfold rd1 at h
  split at h
  · rename_i h1
    obtain ⟨h1, h2, h3, h4, h5, h6⟩ := h1
    injection h with h
    injection h with e1 e2
    subst e1 e2
    refine ⟨h6, by omega, h4, fun i hi1 hi2 => ?_⟩
    by_cases c1 : i < a + run1 b n a
    · have := run1_ones b n a (i - a) (by omega)
      rw [show a + (i - a) = i by omega] at this
      exact .inr this
    · by_cases c2 : i = a + run1 b n a
      · rw [c2]; exact .inl h2
      · have := h5 (i - (a + run1 b n a + 1)) (by omega)
        rw [show a + run1 b n a + 1 + (i - (a + run1 b n a + 1)) = i by omega] at this
        exact this
  · cases h

/-- A folded number unfolded. -/
def unf (u : Nat) : Int := if u % 2 = 1 then -(((u + 1) / 2 : Nat) : Int) else ((u / 2 : Nat) : Int)

/-- The first m numbers, and the place behind them. -/
def rdn (b : Nat → Int) (n k : Nat) : Nat → Option (List Int × Nat)
  | 0 => some ([], 0)
  | m + 1 => match rdn b n k m with
    | none => none
    | some (L, a) => match rd1 b n k a with
      | none => none
      | some (u, a') => some (L ++ [unf u], a')

theorem rdn_next {b : Nat → Int} {n k m a u a' : Nat} {L : List Int} (h : rdn b n k m = some (L, a)) (h1 : rd1 b n k a = some (u, a')) : rdn b n k (m + 1) = some (L ++ [unf u], a') := by rw [rdn, h]; show (match rd1 b n k a with | none => none | some (u, a') => some (L ++ [unf u], a')) = _; rw [h1]
theorem rdn_stop {b : Nat → Int} {n k m a : Nat} {L : List Int} (h : rdn b n k m = some (L, a)) (h1 : rd1 b n k a = none) : rdn b n k (m + 1) = none := by rw [rdn, h]; show (match rd1 b n k a with | none => none | some (u, a') => some (L ++ [unf u], a')) = _; rw [h1]
theorem rdn_none {b : Nat → Int} {n k m : Nat} (h : rdn b n k m = none) : ∀ j, m ≤ j → rdn b n k j = none := by
  intro j
  induction j with
  | zero => intro hj; obtain rfl : m = 0 := by omega
            exact h
  | succ j ih =>
    intro hj
    by_cases e : m = j + 1
    · rw [← e]; exact h
    · rw [rdn, ih (by omega)]

theorem rdn_told {b : Nat → Int} {n k : Nat} (m : Nat) {L : List Int} {a : Nat} (h : rdn b n k m = some (L, a)) : L.length = m ∧ a ≤ n ∧ ∀ i, i < a → Bit (b i) := by
  induction m generalizing L a with
  | zero =>
    injection h with h
    injection h with e1 e2
    subst e1 e2
    exact ⟨rfl, Nat.zero_le _, fun i hi => absurd hi (Nat.not_lt_zero _)⟩
  | succ m ih =>
    cases hm : rdn b n k m with
    | none => rw [rdn, hm] at h; cases h
    | some p =>
      obtain ⟨L0, a0⟩ := p
      obtain ⟨i1, i2, i3⟩ := ih hm
      cases h1 : rd1 b n k a0 with
      | none => rw [rdn_stop hm h1] at h; cases h
      | some p =>
        obtain ⟨u, a'⟩ := p
        rw [rdn_next hm h1] at h
        injection h with h
        injection h with e1 e2
        subst e1 e2
        obtain ⟨_, j2, j3, j4⟩ := rd1_told h1
        refine ⟨by rw [List.length_append, i1, List.length_singleton], j3, fun i hi => ?_⟩
        by_cases c : i < a0
        · exact i3 i c
        · exact j4 i (by omega) hi
end Go.Proofs.YtndagpompioooaaDoor
