/- Convolutions: the sums as they grow, and the model's. -/
import Derived.Test.YtimjbpmppigaoaaK1
namespace Go.Proofs.Ytimjbpmppigaoaa
open Go.RowKit

/-- The sums behind k products of x with ys, the first one at i, around m. -/
def rwf (m : Nat) (ys : Nat → Int) (x : Int) (i : Nat) (f : Nat → Int) : Nat → Nat → Int
  | 0 => f
  | k + 1 => fun t => if t = (i + k) % m then rwf m ys x i f k ((i + k) % m) + x * ys k else rwf m ys x i f k t

/-- The sums behind i rows of nb products. -/
def cvf (m : Nat) (xs ys : Nat → Int) (nb : Nat) : Nat → Nat → Int
  | 0 => fun _ => 0
  | i + 1 => rwf m ys (xs i) i (cvf m xs ys nb i) nb

theorem prod_le {x y : Int} (hx : Tap x) (hy : Tap y) : -1000000000000 ≤ x * y ∧ x * y ≤ 1000000000000 := by
  obtain ⟨a, b⟩ := hx
  obtain ⟨c, d⟩ := hy
  have h1 := Int.mul_nonneg (show 0 ≤ x + 1000000 by omega) (show 0 ≤ y + 1000000 by omega)
  have h2 := Int.mul_nonneg (show 0 ≤ 1000000 - x by omega) (show 0 ≤ 1000000 - y by omega)
  have h3 := Int.mul_nonneg (show 0 ≤ x + 1000000 by omega) (show 0 ≤ 1000000 - y by omega)
  have h4 := Int.mul_nonneg (show 0 ≤ 1000000 - x by omega) (show 0 ≤ y + 1000000 by omega)
  grind

theorem rwf_le {m : Nat} {ys : Nat → Int} {x : Int} {i : Nat} {f : Nat → Int} {nb : Nat} {C : Int} (hx : Tap x) (hy : ∀ k, k < nb → Tap (ys k)) (hf : ∀ t, -C ≤ f t ∧ f t ≤ C) :
    ∀ k, k ≤ nb → ∀ t, -(C + 1000000000000 * (k : Int)) ≤ rwf m ys x i f k t ∧ rwf m ys x i f k t ≤ C + 1000000000000 * (k : Int)
  | 0, _, t => by have := hf t; simpa [rwf] using this
  | k + 1, hk, t => by
    have h := rwf_le (m := m) (i := i) hx hy hf k (by omega)
    have hp := prod_le hx (hy k (by omega))
    unfold rwf
    split
    · have := h ((i + k) % m); omega
    · have := h t; omega

theorem cvf_le {m : Nat} {xs ys : Nat → Int} {na nb : Nat} (hx : ∀ k, k < na → Tap (xs k)) (hy : ∀ k, k < nb → Tap (ys k)) :
    ∀ i, i ≤ na → ∀ t, -(1000000000000 * ((nb : Int) * i)) ≤ cvf m xs ys nb i t ∧ cvf m xs ys nb i t ≤ 1000000000000 * ((nb : Int) * i)
  | 0, _, t => by simp [cvf]
  | i + 1, hi, t => by
    have h := rwf_le (m := m) (i := i) (hx i (by omega)) hy (cvf_le (m := m) hx hy i (by omega)) nb (Nat.le_refl _) t
    unfold cvf
    have e : (nb : Int) * ((i + 1 : Nat) : Int) = (nb : Int) * i + nb := by rw [Int.natCast_add, Int.mul_add]; simp
    rw [e]
    omega

/-- Every sum on the way has room. -/
theorem sum_le {m : Nat} {xs ys : Nat → Int} {na nb : Nat} (hx : Tps na xs) (hy : Tps nb ys) (i : Nat) (hi : i < na) (k : Nat) (hk : k ≤ nb) (t : Nat) :
    -100000000000000000 ≤ rwf m ys (xs i) i (cvf m xs ys nb i) k t ∧ rwf m ys (xs i) i (cvf m xs ys nb i) k t ≤ 100000000000000000 := by
  have h := rwf_le (m := m) (i := i) (hx.2 i hi) hy.2 (cvf_le (m := m) hx.2 hy.2 i (by omega)) k hk t
  have h1 := hx.1
  have h2 := hy.1
  have h3 : (nb : Int) * i ≤ 256 * 256 := by
    have := Nat.mul_le_mul (show nb ≤ 256 by omega) (show i ≤ 256 by omega)
    have e : (nb : Int) * i = ((nb * i : Nat) : Int) := by simp
    rw [e]; omega
  omega

theorem kmade_zero (n : Nat) : (madeCells (Value.int .i64 0).cells (n * 1)).toList = ils (fun _ => 0) n := by
  apply List.ext_getElem?
  intro i
  by_cases h : i < n
  · rw [ils_get h]
    simp [madeCells, Value.cells, h, Nat.mod_one]
  · rw [List.getElem?_eq_none (by rw [Array.length_toList, size_madeCells]; omega), List.getElem?_eq_none (by rw [ils_length]; omega)]

/-- What is told: a list in memory of the call's own, and a bool. -/
def Pst (w w' : World) (e : Ending) (N : Nat) (ys : Nat → Int) (ok : Bool) : Prop := ∃ u, e = .returned (.tuple #[u, .bool ok]) ∧ w'.ownsRow w.heap.size 3 1 u N (ils ys N) ∧ Below w.heap.size w w'
end Go.Proofs.Ytimjbpmppigaoaa
