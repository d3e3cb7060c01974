/- Quantities: what is right, one number. -/
import Derived.Test.YtonjgielpcofeaaRows
import Derived.WalkKit
import Derived.WalkSpells
import Derived.WalkLawsBesides
import Derived.Deep.QuietTactic
import Derived.BigQuiet
import Derived.BigRegion
import Derived.Deep.Cut
namespace Go.Proofs.Ytonjgielpcofeaa
open Go.RowKit

theorem below_one (w : World) (o : Obj) : Below w.heap.size w (w.alloc o) := (Below.refl _ _).alloc (Nat.le_refl _) _

theorem bstep {w w1 w2 : World} (h1 : Below w.heap.size w w1) (h2 : Below w1.heap.size w1 w2) : Below w.heap.size w w2 := h1.trans (h2.mono h1.size)

/-- A quantity that is right. -/
def Qok (n p v s : Int) : Prop := (-1000000000 ≤ n ∧ n ≤ 1000000000) ∧ (n % 10 ≠ 0 ∨ n = 0 ∧ p = 0) ∧ (-30 ≤ p ∧ p ≤ 30) ∧ (-9 ≤ v ∧ v ≤ 9) ∧ (-9 ≤ s ∧ s ≤ 9)
instance (n p v s : Int) : Decidable (Qok n p v s) := by unfold Qok; infer_instance

theorem tmod_ten (n : Int) : n.tmod 10 = 0 ↔ n % 10 = 0 := by
  rw [← Int.dvd_iff_tmod_eq_zero, ← Int.dvd_iff_emod_eq_zero]

theorem in_one (x lo hi : Int) (w : World) : Calls Try.prog 27 #[.int .i64 x, .int .i64 lo, .int .i64 hi] w fun e w' => e = .returned (.bool (decide (lo ≤ x ∧ x ≤ hi))) ∧ w' = w := by
  go_enter Try.func27, Try.ntmps27
  by_cases h : lo ≤ x
  · by_cases h1 : x ≤ hi
    · go_wp2
      go_ret
      exact ⟨by simp [h, h1], rfl⟩
    · go_wp2
      go_ret
      exact ⟨by simp [h1], rfl⟩
  · go_wp2
    go_ret
    exact ⟨by simp; omega, rfl⟩

theorem sam_one (x : Int) (w : World) : Calls Try.prog 28 #[.int .i64 x] w fun e w' => e = .returned (.bool (decide (-1000000000 ≤ x ∧ x ≤ 1000000000))) ∧ w' = w := by
  go_enter Try.func28, Try.ntmps28
  by_cases h : -1000000000 ≤ x
  · by_cases h1 : x ≤ 1000000000
    · go_wp2
      go_ret
      exact ⟨by simp [h, h1], rfl⟩
    · go_wp2
      go_ret
      exact ⟨by simp [h1], rfl⟩
  · go_wp2
    go_ret
    exact ⟨by simp; omega, rfl⟩

theorem ssam_one (x : Int) (w : World) : Calls Try.prog 26 #[.int .i64 x] w fun e w' => e = .returned (.bool (decide (-1000000000 ≤ x ∧ x ≤ 1000000000))) ∧ w' = w := by
  go_enter Try.func26, Try.ntmps26
  by_cases h : -1000000000 ≤ x
  · by_cases h1 : x ≤ 1000000000
    · go_wp2
      go_ret
      exact ⟨by simp [h, h1], rfl⟩
    · go_wp2
      go_ret
      exact ⟨by simp [h1], rfl⟩
  · go_wp2
    go_ret
    exact ⟨by simp; omega, rfl⟩

theorem toQ_any (n p v s : Int) (w : World) : Calls Try.prog 15 #[.agg #[.int .i64 n, .int .i64 p, .int .i64 v, .int .i64 s]] w fun e w' => e = .returned (.agg #[.int .i64 n, .int .i64 p, .int .i64 v, .int .i64 s]) ∧ Below w.heap.size w w' := by
  go_enter Try.func15, Try.ntmps15
  go_wp2
  refine bodyPost_ret (v := .agg #[.int .i64 n, .int .i64 p, .int .i64 v, .int .i64 s]) (by simp [results, Try.results15, go_sem]) rfl ?_
  refine ⟨rfl, ?_⟩
  repeat first
    | exact (below_one _ _)
    | (refine Below.setCell ?_ (by simp <;> omega) _)
    | (refine Below.alloc ?_ (by simp <;> omega) _)

end Go.Proofs.Ytonjgielpcofeaa
