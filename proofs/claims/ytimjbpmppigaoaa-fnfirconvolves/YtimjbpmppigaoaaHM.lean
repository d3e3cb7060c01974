/- Convolutions in plain numbers: their beginning is what the filter tells. -/
import Derived.Test.YtimjbpmppigaoaaK5
import Derived.Test.YtimjbpmppigaoaaHC
namespace Go.Proofs.Ytimjbpmppigaoaa
open Go.RowKit

/-- Samples back from i, 0 ahead of the first. -/
def bk (xs : Nat → Int) (i k : Nat) : Int := if k ≤ i then xs (i - k) else 0

theorem bk_shf (xs : Nat → Int) (i : Nat) : shf (xs i) (pst (fun _ => 0) xs i) = bk xs i := by
  funext k
  unfold shf bk
  by_cases h : k = 0
  · subst h; rw [if_pos rfl, if_pos (by omega), Nat.sub_zero]
  · rw [if_neg h, pst_at]
    by_cases h2 : k ≤ i
    · rw [if_pos (by omega), if_pos h2]; congr 1; omega
    · rw [if_neg (by omega), if_neg h2]

theorem dts_cut (f xs : Nat → Int) (i : Nat) : ∀ n, dts f (bk xs i) (i + 1 + n) = dts f (bk xs i) (i + 1)
  | 0 => rfl
  | n + 1 => by
    show dts f (bk xs i) (i + 1 + n) + f (i + 1 + n) * bk xs i (i + 1 + n) = _
    rw [dts_cut f xs i n]
    unfold bk
    rw [if_neg (by omega), Int.mul_zero, Int.add_zero]

/-- What is told at step i: the sum over the taps that reach a sample. -/
theorem fir_cut {n i K : Nat} {f xs : Nat → Int} (hK : K = n ∨ (K = i + 1 ∧ K ≤ n)) : dts f (bk xs i) K = fir n f (fun _ => 0) xs i := by
  unfold fir
  rw [bk_shf]
  rcases hK with rfl | ⟨rfl, h⟩
  · rfl
  · obtain ⟨q, rfl⟩ := Nat.exists_eq_add_of_le h
    exact (dts_cut f xs i q).symm

/-- A row of products with no way around: what it adds at t. -/
theorem rwf_at {m i nb : Nat} {ys : Nat → Int} {x : Int} {f : Nat → Int} (hm : i + nb ≤ m) : ∀ k, k ≤ nb → ∀ t, rwf m ys x i f k t = f t + if i ≤ t ∧ t < i + k then x * ys (t - i) else 0
  | 0, _, t => by rw [if_neg (by omega), Int.add_zero]; rfl
  | k + 1, hk, t => by
    have ih := rwf_at (ys := ys) (x := x) (f := f) hm k (by omega)
    have e : (i + k) % m = i + k := Nat.mod_eq_of_lt (by omega)
    show (if t = (i + k) % m then rwf m ys x i f k ((i + k) % m) + x * ys k else rwf m ys x i f k t) = _
    rw [e]
    by_cases h : t = i + k
    · subst h
      rw [if_pos rfl, ih, if_neg (by omega), if_pos (by omega), Int.add_zero, show i + k - i = k by omega]
    · rw [if_neg h, ih]
      by_cases h2 : i ≤ t ∧ t < i + k
      · rw [if_pos h2, if_pos (by omega)]
      · rw [if_neg h2, if_neg (by omega)]

/-- Behind i rows the sum at t, below nb. -/
theorem cvf_at {na nb : Nat} {f xs : Nat → Int} : ∀ i, i ≤ na → ∀ t, t < nb → cvf (na + nb - 1) f xs nb i t = dts f (bk xs t) i
  | 0, _, _, _ => rfl
  | i + 1, hi, t, ht => by
    show rwf (na + nb - 1) xs (f i) i (cvf (na + nb - 1) f xs nb i) nb t = dts f (bk xs t) i + f i * bk xs t i
    rw [rwf_at (by omega) nb (Nat.le_refl _), cvf_at i (by omega) t ht]
    congr 1
    unfold bk
    by_cases h : i ≤ t
    · rw [if_pos (by omega), if_pos h]
    · rw [if_neg (by omega), if_neg h, Int.mul_zero]

theorem conv_fir {na nb : Nat} {f xs : Nat → Int} {t : Nat} (ht : t < nb) : cvf (na + nb - 1) f xs nb na t = fir na f (fun _ => 0) xs t := by
  rw [cvf_at na (Nat.le_refl _) t ht]
  exact fir_cut (.inl rfl)
end Go.Proofs.Ytimjbpmppigaoaa
