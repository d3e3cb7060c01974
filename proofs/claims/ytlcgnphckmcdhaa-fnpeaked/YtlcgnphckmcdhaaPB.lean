/- Peaks in plain numbers. -/
import Derived.Test.YtlcgnphckmcdhaaPA
namespace Go.Proofs.Ytlcgnphckmcdhaa
open Go.RowKit

/-- One sample further: the peaks that are over, and the one that is not. -/
def pstep (high low : Int) (k : Int) (x : Int) : List (Int × Int) × Option (Int × Int) → List (Int × Int) × Option (Int × Int)
  | (l, none) => if high ≤ x then (l, some (k, x)) else (l, none)
  | (l, some p) => if x < low then (l ++ [p], none) else if p.2 < x then (l, some (k, x)) else (l, some p)

/-- The peaks of the first k samples. -/
def pst (high low : Int) (xs : Nat → Int) : Nat → List (Int × Int) × Option (Int × Int)
  | 0 => ([], none)
  | k + 1 => pstep high low k (xs k) (pst high low xs k)

/-- All peaks. -/
def rwp (l : List (Int × Int)) : Option (Int × Int) → List (Int × Int)
  | none => l
  | some p => l ++ [p]

abbrev pkl (high low : Int) (xs : Nat → Int) (n : Nat) : List (Int × Int) := rwp (pst high low xs n).1 (pst high low xs n).2

theorem pstep_len (high low k x : Int) (p : List (Int × Int) × Option (Int × Int)) : (rwp (pstep high low k x p).1 (pstep high low k x p).2).length ≤ (rwp p.1 p.2).length + 1 := by
  rcases p with ⟨l, _ | p⟩
  · by_cases h : high ≤ x
    · rw [show pstep high low k x (l, none) = (l, some (k, x)) from if_pos h]; simp [rwp]
    · rw [show pstep high low k x (l, none) = (l, none) from if_neg h]; simp [rwp]
  · by_cases h : x < low
    · rw [show pstep high low k x (l, some p) = (l ++ [p], none) from if_pos h]; simp [rwp]
    · by_cases h1 : p.2 < x
      · rw [show pstep high low k x (l, some p) = (l, some (k, x)) from (if_neg h).trans (if_pos h1)]; simp [rwp]
      · rw [show pstep high low k x (l, some p) = (l, some p) from (if_neg h).trans (if_neg h1)]; simp [rwp]

theorem pst_len (high low : Int) (xs : Nat → Int) (k : Nat) : (pkl high low xs k).length ≤ k := by
  induction k with
  | zero => exact Nat.le_refl _
  | succ k ih => exact Nat.le_trans (pstep_len _ _ _ _ _) (Nat.succ_le_succ ih)

theorem two_new (w : World) (a b : Value) (t : TypeId) : ∀ j u, [a, b][j]? = some u → (w.alloc (.cells #[a, b] t)).cell? ((⟨w.heap.size, 0, none⟩ : Addr).add j) = some u := by
  intro j u h
  match j, h with
  | 0, h => simp at h; subst h; simp [Addr.add]
  | 1, h => simp at h; subst h; simp [Addr.add]
  | n + 2, h => simp at h

theorem own2_lf {w : World} {B m : Nat} {v : Value} {l : List (Int × Int)} {a s : Int} (hm : m = l.length) (h : w.ownsRow B 31 2 v (m + 1) (ils (zf l) (m * 2) ++ [.int .i64 a, .int .i64 s])) : w.ownsRow B 31 2 v (l ++ [(a, s)]).length (ils (zf (l ++ [(a, s)])) ((l ++ [(a, s)]).length * 2)) := by
  subst hm
  rw [List.length_append, List.length_singleton, zf_snoc]
  exact h

theorem own2_len {w : World} {B : Nat} {v : Value} {l : List (Int × Int)} {p : Int × Int} (h : w.ownsRow B 31 2 v (l ++ [p]).length (ils (zf (l ++ [p])) ((l ++ [p]).length * 2))) : w.ownsRow B 31 2 v (l.length + 1) (ils (zf (l ++ [p])) ((l.length + 1) * 2)) := by
  rw [List.length_append, List.length_singleton] at h
  exact h

/-- The row with its last peak put anew. -/
theorem own2_put {w : World} {B g cap : Nat} {l : List (Int × Int)} {p : Int × Int} (h : w.ownsRow B 31 2 (.slice (some ⟨g, 0, none⟩) (l.length + 1) cap) (l.length + 1) (ils (zf (l ++ [p])) ((l.length + 1) * 2))) (a s : Int) :
    ((w.setCell ⟨g, l.length * 2, none⟩ (.int .i64 a)).setCell ⟨g, l.length * 2 + 1, none⟩ (.int .i64 s)).ownsRow B 31 2 (.slice (some ⟨g, 0, none⟩) (l.length + 1) cap) (l ++ [(a, s)]).length (ils (zf (l ++ [(a, s)])) ((l ++ [(a, s)]).length * 2)) := by
  have st := (World.ownsRow.stored (World.ownsRow.stored h (l.length * 2) (.int .i64 a)).1 (l.length * 2 + 1) (.int .i64 s)).1
  rw [zf_put] at st
  rw [List.length_append, List.length_singleton]
  exact st

/-- A slice that owns something is written out. -/
theorem own2_shape {w : World} {B m : Nat} {v : Value} {xs : List Value} (h : w.ownsRow B 31 2 v (m + 1) xs) : ∃ g cap, v = .slice (some ⟨g, 0, none⟩) (m + 1) cap ∧ m + 1 ≤ cap ∧ B ≤ g := by
  rcases h.2 with ⟨_, h0⟩ | ⟨g, cap, _, rfl, hb, _, hc, _⟩
  · omega
  · exact ⟨g, cap, rfl, hc, hb⟩

end Go.Proofs.Ytlcgnphckmcdhaa
