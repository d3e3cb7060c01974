/- Whole numbers: quotients down, nearest quotients. -/
import Derived.Test.YtlcnciibjhcbiaaDoorRows
import Derived.WalkKit
import Derived.WalkSpells
import Derived.WalkLawsBesides
import Derived.Deep.QuietTactic
import Derived.BigQuiet
namespace Go.Proofs.YtlcnciibjhcbiaaDoor.Wv
open Go.RowKit

theorem tdiv_neg {a b : Int} (hb : 1 ≤ b) (h : a.tmod b < 0) : a.tdiv b - 1 = a / b ∧ a.tmod b + b = a % b := by
  have e := Int.mul_tdiv_add_tmod a b
  have h1 := Int.tmod_lt_of_pos a (show 0 < b by omega)
  have h2 := Int.lt_tmod_of_pos a (show 0 < b by omega)
  have := (Int.ediv_emod_unique (a := a) (b := b) (r := a.tmod b + b) (q := a.tdiv b - 1) (by omega)).2 ⟨by rw [Int.mul_sub]; omega, by omega, by omega⟩
  exact ⟨this.1.symm, this.2.symm⟩

theorem tdiv_pos {a b : Int} (hb : 1 ≤ b) (h : ¬ a.tmod b < 0) : a.tdiv b = a / b ∧ a.tmod b = a % b := by
  have e := Int.mul_tdiv_add_tmod a b
  have h1 := Int.tmod_lt_of_pos a (show 0 < b by omega)
  have := (Int.ediv_emod_unique (a := a) (b := b) (r := a.tmod b) (q := a.tdiv b) (by omega)).2 ⟨by omega, by omega, by omega⟩
  exact ⟨this.1.symm, this.2.symm⟩

/-- A quotient is not beyond what is divided. -/
theorem ediv_bounds {a b M : Int} (hb : 1 ≤ b) (h0 : -M ≤ a) (h1 : a ≤ M) (hM : 0 ≤ M) : -M ≤ a / b ∧ a / b ≤ M := by
  have e := Int.mul_ediv_add_emod a b
  have r0 := Int.emod_nonneg a (show b ≠ 0 by omega)
  have r1 := Int.emod_lt_of_pos a (show 0 < b by omega)
  by_cases h : 0 ≤ a / b
  · have := Int.mul_nonneg (show 0 ≤ b - 1 by omega) h
    have e2 : (b - 1) * (a / b) = b * (a / b) - a / b := by grind
    omega
  · have := Int.mul_nonpos_of_nonneg_of_nonpos (show 0 ≤ b - 1 by omega) (show a / b + 1 ≤ 0 by omega)
    have e2 : (b - 1) * (a / b + 1) = b * (a / b) + b - a / b - 1 := by grind
    omega

theorem tdiv_bounds {a b M : Int} (hb : 1 ≤ b) (h0 : -M ≤ a) (h1 : a ≤ M) (hM : 0 ≤ M) : -M ≤ a.tdiv b ∧ a.tdiv b ≤ M + 1 := by
  have := ediv_bounds hb h0 h1 hM
  by_cases h : a.tmod b < 0
  · have := (tdiv_neg hb h).1
    omega
  · have := (tdiv_pos hb h).1
    omega

theorem in_any (x lo hi : Int) (w : World) : Calls Tryd.prog 38 #[.int .i64 x, .int .i64 lo, .int .i64 hi] w fun e w' => e = .returned (.bool (decide (lo ≤ x ∧ x ≤ hi))) ∧ w' = w := by
  go_enter Tryd.func38, Tryd.ntmps38
  by_cases h : lo ≤ x
  · by_cases h1 : x ≤ hi
    · go_wp2
      go_ret
      exact ⟨by simp [h, h1], rfl⟩
    · go_wp2
      go_ret
      exact ⟨by simp [h1], rfl⟩
  · go_wp2
    go_ret
    exact ⟨by simp; omega, rfl⟩

theorem big_any (x : Int) (w : World) : Calls Tryd.prog 91 #[.int .i64 x] w fun e w' => e = .returned (.bool (decide (-4000000000000000000 ≤ x ∧ x ≤ 4000000000000000000))) ∧ w' = w := by
  go_enter Tryd.func91, Tryd.ntmps91
  by_cases h : -4000000000000000000 ≤ x
  · by_cases h1 : x ≤ 4000000000000000000
    · go_wp2
      go_ret
      exact ⟨by simp [h, h1], rfl⟩
    · go_wp2
      go_ret
      exact ⟨by simp [h1], rfl⟩
  · go_wp2
    go_ret
    exact ⟨by simp; omega, rfl⟩

theorem ret1 {x y : Int} {w w' : World} (h : x = y) (hw : w' = w) : Ending.returned (.int .i64 x) = Ending.returned (.int .i64 y) ∧ w' = w := ⟨by rw [h], hw⟩

set_option maxHeartbeats 1000000 in
theorem floor_any (a b : Int) (ha : -4000000000000000000 ≤ a ∧ a ≤ 4000000000000000000) (hb : 1 ≤ b ∧ b ≤ 4000000000000000000) (w : World) : Calls Tryd.prog 67 #[.int .i64 a, .int .i64 b] w fun e w' => e = .returned (.int .i64 (a / b)) ∧ w' = w := by
  have hd := tdiv_bounds hb.1 ha.1 ha.2 (by decide)
  by_cases h : a.tmod b < 0
  · have E : Hid _ := (tdiv_neg hb.1 h).1
    go_enter Tryd.func67, Tryd.ntmps67
    go_wp2
    go_ret
    exact ret1 E.out rfl
  · have E : Hid _ := (tdiv_pos hb.1 h).1
    go_enter Tryd.func67, Tryd.ntmps67
    go_wp2
    go_ret
    exact ret1 E.out rfl

/-- The nearest quotient, the half up. -/
def rdv (a b : Int) : Int := if b - a % b ≤ a % b then a / b + 1 else a / b

/-- What RoundDiv answers. -/
def rdV (a b : Int) : Int := if (1 ≤ b ∧ b ≤ 4000000000000000000) ∧ (-4000000000000000000 ≤ a ∧ a ≤ 4000000000000000000) then rdv a b else 0

theorem sub_emod (a b : Int) : a - a / b * b = a % b := by
  have := Int.mul_ediv_add_emod a b
  rw [Int.mul_comm]; omega

theorem rdV_up {a b : Int} (hb : 1 ≤ b ∧ b ≤ 4000000000000000000) (ha : -4000000000000000000 ≤ a ∧ a ≤ 4000000000000000000) (h : b - a % b ≤ a % b) : a / b + 1 = rdV a b := by unfold rdV rdv; rw [if_pos ⟨hb, ha⟩, if_pos h]
theorem rdV_down {a b : Int} (hb : 1 ≤ b ∧ b ≤ 4000000000000000000) (ha : -4000000000000000000 ≤ a ∧ a ≤ 4000000000000000000) (h : ¬ b - a % b ≤ a % b) : a / b = rdV a b := by unfold rdV rdv; rw [if_pos ⟨hb, ha⟩, if_neg h]

theorem rdV_no {a b : Int} (h : ¬ ((1 ≤ b ∧ b ≤ 4000000000000000000) ∧ (-4000000000000000000 ≤ a ∧ a ≤ 4000000000000000000))) : 0 = rdV a b := by unfold rdV; rw [if_neg h]

set_option maxHeartbeats 1000000 in
theorem sRound_any (a b : Int) (w : World) : Calls Tryd.prog 60 #[.int .i64 a, .int .i64 b] w fun e w' => e = .returned (.int .i64 (rdV a b)) ∧ w' = w := by
  have i1 := in_any b 1 4000000000000000000
  have i2 := in_any a (-4000000000000000000) 4000000000000000000
  by_cases hb : 1 ≤ b ∧ b ≤ 4000000000000000000
  · rw [decide_eq_true hb] at i1
    by_cases ha : -4000000000000000000 ≤ a ∧ a ≤ 4000000000000000000
    · rw [decide_eq_true ha] at i2
      have hf := floor_any a b ha hb
      have h0 := ediv_bounds hb.1 ha.1 ha.2 (by decide)
      have hr := sub_emod a b
      have r0 := Int.emod_nonneg a (show b ≠ 0 by omega)
      have r1 := Int.emod_lt_of_pos a (show 0 < b by omega)
      have hp : -9000000000000000000 ≤ a / b * b ∧ a / b * b ≤ 9000000000000000000 := by omega
      by_cases h : b - a % b ≤ a % b
      · have E : Hid _ := rdV_up hb ha h
        go_enter Tryd.func60, Tryd.ntmps60
        go_wp2_with (first | (go_at_call 38; (with_reducible refine (i1 _).mono ?_); rintro e w' ⟨rfl, hw⟩; obtain rfl := hw.symm) | (go_at_call 38; (with_reducible refine (i2 _).mono ?_); rintro e w' ⟨rfl, hw⟩; obtain rfl := hw.symm) | (go_at_call 67; (with_reducible refine (hf _).mono ?_); rintro e w' ⟨rfl, hw⟩; obtain rfl := hw.symm))
        go_ret
        exact ret1 E.out rfl
      · have E : Hid _ := rdV_down hb ha h
        go_enter Tryd.func60, Tryd.ntmps60
        go_wp2_with (first | (go_at_call 38; (with_reducible refine (i1 _).mono ?_); rintro e w' ⟨rfl, hw⟩; obtain rfl := hw.symm) | (go_at_call 38; (with_reducible refine (i2 _).mono ?_); rintro e w' ⟨rfl, hw⟩; obtain rfl := hw.symm) | (go_at_call 67; (with_reducible refine (hf _).mono ?_); rintro e w' ⟨rfl, hw⟩; obtain rfl := hw.symm))
        go_ret
        exact ret1 E.out rfl
    · have E : Hid (0 = rdV a b) := rdV_no (fun h => ha h.2)
      rw [decide_eq_false ha] at i2
      clear ha
      go_enter Tryd.func60, Tryd.ntmps60
      go_wp2_with (first | (go_at_call 38; (with_reducible refine (i1 _).mono ?_); rintro e w' ⟨rfl, hw⟩; obtain rfl := hw.symm) | (go_at_call 38; (with_reducible refine (i2 _).mono ?_); rintro e w' ⟨rfl, hw⟩; obtain rfl := hw.symm) | (go_at_call 67; (with_reducible refine (hf _).mono ?_); rintro e w' ⟨rfl, hw⟩; obtain rfl := hw.symm))
      go_ret
      exact ret1 E.out rfl
  · have E : Hid (0 = rdV a b) := rdV_no (fun h => hb h.1)
    rw [decide_eq_false hb] at i1
    clear hb
    go_enter Tryd.func60, Tryd.ntmps60
    go_wp2_with (first | (go_at_call 38; (with_reducible refine (i1 _).mono ?_); rintro e w' ⟨rfl, hw⟩; obtain rfl := hw.symm) | (go_at_call 38; (with_reducible refine (i2 _).mono ?_); rintro e w' ⟨rfl, hw⟩; obtain rfl := hw.symm) | (go_at_call 67; (with_reducible refine (hf _).mono ?_); rintro e w' ⟨rfl, hw⟩; obtain rfl := hw.symm))
    go_ret
    exact ret1 E.out rfl
end Go.Proofs.YtlcnciibjhcbiaaDoor.Wv
