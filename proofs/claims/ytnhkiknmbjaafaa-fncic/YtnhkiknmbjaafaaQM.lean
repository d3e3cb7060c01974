/- A filter of ones. -/
import Derived.Test.YtnhkiknmbjaafaaFL
import Derived.Test.YtnhkiknmbjaafaaCB
namespace Go.Proofs.Ytnhkiknmbjaafaa
open Go.RowKit

/-- Samples back from i, 0 ahead of the first. -/
def bk (xs : Nat → Int) (i k : Nat) : Int := if k ≤ i then xs (i - k) else 0

theorem bk_shf (xs : Nat → Int) (i : Nat) : shf (xs i) (pst (fun _ => 0) xs i) = bk xs i := by
  funext k
  unfold shf bk
  by_cases h : k = 0
  · subst h; rw [if_pos rfl, if_pos (by omega), Nat.sub_zero]
  · rw [if_neg h, pst_at]
    by_cases h2 : k ≤ i
    · rw [if_pos (by omega), if_pos h2]; congr 1; omega
    · rw [if_neg (by omega), if_neg h2]

theorem dts_cut (f xs : Nat → Int) (i : Nat) : ∀ n, dts f (bk xs i) (i + 1 + n) = dts f (bk xs i) (i + 1)
  | 0 => rfl
  | n + 1 => by
    show dts f (bk xs i) (i + 1 + n) + f (i + 1 + n) * bk xs i (i + 1 + n) = _
    rw [dts_cut f xs i n]
    unfold bk
    rw [if_neg (by omega), Int.mul_zero, Int.add_zero]

/-- What is told at step i: the sum over the taps that reach a sample. -/
theorem fir_cut {n i K : Nat} {f xs : Nat → Int} (hK : K = n ∨ (K = i + 1 ∧ K ≤ n)) : dts f (bk xs i) K = fir n f (fun _ => 0) xs i := by
  unfold fir
  rw [bk_shf]
  rcases hK with rfl | ⟨rfl, h⟩
  · rfl
  · obtain ⟨q, rfl⟩ := Nat.exists_eq_add_of_le h
    exact (dts_cut f xs i q).symm

theorem ones_psum (xs : Nat → Int) (t : Nat) : ∀ j, j ≤ t + 1 → dts (fun _ => 1) (bk xs t) j = psum xs t j
  | 0, _ => rfl
  | j + 1, h => by
    show dts (fun _ => 1) (bk xs t) j + 1 * bk xs t j = psum xs t j + xs (t - j)
    rw [ones_psum xs t j (by omega), Int.one_mul]
    unfold bk
    rw [if_pos (by omega)]

theorem ones_gat (m : Nat) (xs : Nat → Int) : fir m (fun _ => 1) (fun _ => 0) xs = gat m xs := by
  funext t
  unfold gat
  rw [← ones_psum xs t _ (by omega)]
  refine (fir_cut ?_).symm
  by_cases h : m ≤ t + 1
  · exact .inl (Nat.min_eq_left h)
  · have := Nat.min_eq_right (Nat.le_of_lt (Nat.lt_of_not_le h))
    exact .inr ⟨this, by rw [this]; omega⟩
end Go.Proofs.Ytnhkiknmbjaafaa
