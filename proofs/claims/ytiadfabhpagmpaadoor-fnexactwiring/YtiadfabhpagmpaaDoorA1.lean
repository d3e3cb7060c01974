/- Whole numbers: quotients down, nearest quotients. -/
import Derived.Test.YtiadfabhpagmpaaDoorRows
import Derived.WalkKit
import Derived.WalkSpells
import Derived.WalkLawsBesides
import Derived.Deep.QuietTactic
import Derived.BigQuiet
namespace Go.Proofs.YtiadfabhpagmpaaDoor
open Go.RowKit

theorem tdiv_neg {a b : Int} (hb : 1 ≤ b) (h : a.tmod b < 0) : a.tdiv b - 1 = a / b ∧ a.tmod b + b = a % b := by
  have e := Int.mul_tdiv_add_tmod a b
  have h1 := Int.tmod_lt_of_pos a (show 0 < b by omega)
  have h2 := Int.lt_tmod_of_pos a (show 0 < b by omega)
  have := (Int.ediv_emod_unique (a := a) (b := b) (r := a.tmod b + b) (q := a.tdiv b - 1) (by omega)).2 ⟨by rw [Int.mul_sub]; omega, by omega, by omega⟩
  exact ⟨this.1.symm, this.2.symm⟩

theorem tdiv_pos {a b : Int} (hb : 1 ≤ b) (h : ¬ a.tmod b < 0) : a.tdiv b = a / b ∧ a.tmod b = a % b := by
  have e := Int.mul_tdiv_add_tmod a b
  have h1 := Int.tmod_lt_of_pos a (show 0 < b by omega)
  have := (Int.ediv_emod_unique (a := a) (b := b) (r := a.tmod b) (q := a.tdiv b) (by omega)).2 ⟨by omega, by omega, by omega⟩
  exact ⟨this.1.symm, this.2.symm⟩

/-- A quotient is not beyond what is divided. -/
theorem ediv_bounds {a b M : Int} (hb : 1 ≤ b) (h0 : -M ≤ a) (h1 : a ≤ M) (hM : 0 ≤ M) : -M ≤ a / b ∧ a / b ≤ M := by
  have e := Int.mul_ediv_add_emod a b
  have r0 := Int.emod_nonneg a (show b ≠ 0 by omega)
  have r1 := Int.emod_lt_of_pos a (show 0 < b by omega)
  by_cases h : 0 ≤ a / b
  · have := Int.mul_nonneg (show 0 ≤ b - 1 by omega) h
    have e2 : (b - 1) * (a / b) = b * (a / b) - a / b := by grind
    omega
  · have := Int.mul_nonpos_of_nonneg_of_nonpos (show 0 ≤ b - 1 by omega) (show a / b + 1 ≤ 0 by omega)
    have e2 : (b - 1) * (a / b + 1) = b * (a / b) + b - a / b - 1 := by grind
    omega

theorem tdiv_bounds {a b M : Int} (hb : 1 ≤ b) (h0 : -M ≤ a) (h1 : a ≤ M) (hM : 0 ≤ M) : -M ≤ a.tdiv b ∧ a.tdiv b ≤ M + 1 := by
  have := ediv_bounds hb h0 h1 hM
  by_cases h : a.tmod b < 0
  · have := (tdiv_neg hb h).1
    omega
  · have := (tdiv_pos hb h).1
    omega

theorem in_any (x lo hi : Int) (w : World) : Calls Tryd.prog 18 #[.int .i64 x, .int .i64 lo, .int .i64 hi] w fun e w' => e = .returned (.bool (decide (lo ≤ x ∧ x ≤ hi))) ∧ w' = w := by
  go_enter Tryd.func18, Tryd.ntmps18
  by_cases h : lo ≤ x
  · by_cases h1 : x ≤ hi
    · go_wp2
      go_ret
      exact ⟨by simp [h, h1], rfl⟩
    · go_wp2
      go_ret
      exact ⟨by simp [h1], rfl⟩
  · go_wp2
    go_ret
    exact ⟨by simp; omega, rfl⟩

theorem ret1 {x y : Int} {w w' : World} (h : x = y) (hw : w' = w) : Ending.returned (.int .i64 x) = Ending.returned (.int .i64 y) ∧ w' = w := ⟨by rw [h], hw⟩

/-- The nearest quotient, the half up. -/
def rdv (a b : Int) : Int := if b - a % b ≤ a % b then a / b + 1 else a / b

/-- What RoundDiv answers. -/
def rdV (a b : Int) : Int := if (1 ≤ b ∧ b ≤ 4000000000000000000) ∧ (-4000000000000000000 ≤ a ∧ a ≤ 4000000000000000000) then rdv a b else 0

theorem sub_emod (a b : Int) : a - a / b * b = a % b := by
  have := Int.mul_ediv_add_emod a b
  rw [Int.mul_comm]; omega

theorem rdV_up {a b : Int} (hb : 1 ≤ b ∧ b ≤ 4000000000000000000) (ha : -4000000000000000000 ≤ a ∧ a ≤ 4000000000000000000) (h : b - a % b ≤ a % b) : a / b + 1 = rdV a b := by unfold rdV rdv; rw [if_pos ⟨hb, ha⟩, if_pos h]
theorem rdV_down {a b : Int} (hb : 1 ≤ b ∧ b ≤ 4000000000000000000) (ha : -4000000000000000000 ≤ a ∧ a ≤ 4000000000000000000) (h : ¬ b - a % b ≤ a % b) : a / b = rdV a b := by unfold rdV rdv; rw [if_pos ⟨hb, ha⟩, if_neg h]

theorem rdV_no {a b : Int} (h : ¬ ((1 ≤ b ∧ b ≤ 4000000000000000000) ∧ (-4000000000000000000 ≤ a ∧ a ≤ 4000000000000000000))) : 0 = rdV a b := by unfold rdV; rw [if_neg h]

end Go.Proofs.YtiadfabhpagmpaaDoor
