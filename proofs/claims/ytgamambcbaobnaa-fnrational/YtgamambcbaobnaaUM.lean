/- Rates in plain numbers. -/
import Derived.Test.YtgamambcbaobnaaAP
import Derived.Test.YtgamambcbaobnaaRB
namespace Go.Proofs.Ytgamambcbaobnaa
open Go.RowKit

/-- What is told: a list in memory of the call's own, and a bool. -/
def Pst (w w' : World) (e : Ending) (N : Nat) (ys : Nat → Int) (ok : Bool) : Prop := ∃ u, e = .returned (.tuple #[u, .bool ok]) ∧ w'.ownsRow w.heap.size 3 1 u N (ils ys N) ∧ Below w.heap.size w w'

/-- A signal made denser. -/
def upF (m : Nat) (xs : Nat → Int) (j : Nat) : Int := if j % m = 0 then xs (j / m) else 0

/-- The same, up to the sample k. -/
def spr (m : Nat) (xs : Nat → Int) (k j : Nat) : Int := if j % m = 0 ∧ j / m < k then xs (j / m) else 0

theorem spr_zero (m : Nat) (xs : Nat → Int) : spr m xs 0 = fun _ => 0 := by
  funext j
  unfold spr
  rw [if_neg (fun h => Nat.not_lt_zero _ h.2)]

theorem spr_put {m k : Nat} (hm : 0 < m) (xs : Nat → Int) {y : Int} (hy : y = xs k) : (fun i => if i = k * m then y else spr m xs k i) = spr m xs (k + 1) := by
  funext i
  subst hy
  show (if i = k * m then xs k else spr m xs k i) = spr m xs (k + 1) i
  unfold spr
  by_cases h : i = k * m
  · subst h
    rw [if_pos rfl, Nat.mul_mod_left, Nat.mul_div_cancel _ hm, if_pos ⟨rfl, by omega⟩]
  · rw [if_neg h]
    by_cases h0 : i % m = 0
    · have h1 : i / m ≠ k := by
        intro e
        have := Nat.div_add_mod i m
        rw [e, h0, Nat.mul_comm] at this
        omega
      by_cases h2 : i / m < k
      · rw [if_pos ⟨h0, h2⟩, if_pos ⟨h0, Nat.lt_succ_of_lt h2⟩]
      · rw [if_neg (fun h => h2 h.2), if_neg (fun h => h2 (Nat.lt_of_le_of_ne (Nat.le_of_lt_succ h.2) h1))]
    · rw [if_neg (fun h => h0 h.1), if_neg (fun h => h0 h.1)]

theorem spr_all {m n : Nat} (hm : 0 < m) (xs : Nat → Int) : ils (spr m xs n) (n * m) = ils (upF m xs) (n * m) := by
  refine ils_congr fun j hj => ?_
  have : j / m < n := (Nat.div_lt_iff_lt_mul hm).2 hj
  unfold spr upF
  by_cases h : j % m = 0
  · rw [if_pos ⟨h, this⟩, if_pos h]
  · rw [if_neg (fun e => h e.1), if_neg h]

theorem upF_at {m k : Nat} (hm : 0 < m) (xs : Nat → Int) : upF m xs (k * m) = xs k := by
  unfold upF
  rw [if_pos (Nat.mul_mod_left _ _), Nat.mul_div_cancel _ hm]

theorem upF_off {m k j : Nat} (h0 : 0 < j) (h : j < m) (xs : Nat → Int) : upF m xs (k * m + j) = 0 := by
  unfold upF
  rw [if_neg]
  rw [Nat.add_comm, Nat.add_mul_mod_self_right, Nat.mod_eq_of_lt h]
  omega

/-- A signal thinned. -/
def thF (m p : Nat) (xs : Nat → Int) (j : Nat) : Int := xs (p + m * j)

/-- How many samples are left. -/
def dN (n m p : Nat) : Nat := (n + m - 1 - p) / m

theorem dN_of {n m p j : Nat} (h0 : p < m) (h1 : n ≤ p + m * j) (h2 : p + m * j < n + m) : dN n m p = j := by
  refine Nat.div_eq_of_lt_le ?_ ?_
  · rw [Nat.mul_comm]; omega
  · rw [Nat.add_mul, Nat.mul_comm j m]; omega

theorem dN_le (n m p : Nat) (h : 0 < m) : dN n m p ≤ n := by
  unfold dN
  rw [Nat.div_le_iff_le_mul_add_pred h]
  have := Nat.le_mul_of_pos_left n h
  omega

/-- A sample, 0 outside. -/
def spt (n : Nat) (xs : Nat → Int) (i : Int) : Int := if 0 ≤ i ∧ i < n then xs i.toNat else 0

theorem spt_smp {n : Nat} {xs : Nat → Int} (h : ∀ k, k < n → Smp (xs k)) (i : Int) : Smp (spt n xs i) := by
  unfold spt
  by_cases h1 : 0 ≤ i ∧ i < n
  · rw [if_pos h1]; exact h _ (by omega)
  · rw [if_neg h1]; exact ⟨by omega, by omega⟩

theorem mul_in {a b A B : Int} (ha : -A ≤ a ∧ a ≤ A) (hb : 0 ≤ b ∧ b ≤ B) (hA : 0 ≤ A) : -(A * B) ≤ a * b ∧ a * b ≤ A * B := by
  have h1 := Int.mul_le_mul_of_nonneg_right ha.2 hb.1
  have h2 := Int.mul_le_mul_of_nonneg_right ha.1 hb.1
  have h3 := Int.mul_le_mul_of_nonneg_left hb.2 hA
  rw [Int.neg_mul] at h2
  omega

/-- The first that does not. -/
theorem first_no (P : Nat → Prop) [DecidablePred P] : ∀ M, (∃ K, K ≤ M ∧ (∀ j, j < K → P j) ∧ ¬ P K) ∨ ∀ j, j ≤ M → P j
  | 0 => by
    by_cases h : P 0
    · exact .inr fun j hj => by obtain rfl : j = 0 := by omega
                                exact h
    · exact .inl ⟨0, by omega, fun j hj => by omega, h⟩
  | M + 1 => by
    rcases first_no P M with ⟨K, h1, h2, h3⟩ | h
    · exact .inl ⟨K, by omega, h2, h3⟩
    · by_cases h1 : P (M + 1)
      · refine .inr fun j hj => ?_
        by_cases e : j = M + 1
        · subst e; exact h1
        · exact h j (by omega)
      · exact .inl ⟨M + 1, by omega, fun j hj => h j (by omega), h1⟩
end Go.Proofs.Ytgamambcbaobnaa
