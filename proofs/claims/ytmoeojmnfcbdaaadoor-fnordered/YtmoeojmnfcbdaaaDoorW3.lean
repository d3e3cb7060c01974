/- The walks of the model's Order. -/
import Derived.Test.YtmoeojmnfcbdaaaDoorW1
import Derived.WalkSpells
import Derived.WalkLawsBesides
namespace Go.Proofs.YtmoeojmnfcbdaaaDoor
open Go.RowKit

theorem l1Form_no (form : Int) (w : World) (h : form < 1 ∨ 3 < form) :
    Calls Tryd.prog 23 #[.int .i64 form] w fun e w' => e = .returned (.tuple #[.int .i64 0, .int .i64 0, .int .i64 0, .bool false]) ∧ w' = w := by
  have h1 : (form == 1) = false := by simp; omega
  have h2 : (form == 2) = false := by simp; omega
  have h3 : (form == 3) = false := by simp; omega
  clear h
  go_enter Tryd.func23, Tryd.ntmps23
  go_wp2
  exact bodyPost_ret (v := .tuple #[.int .i64 0, .int .i64 0, .int .i64 0, .bool false]) (by simp [results, Tryd.results23, go_sem]) rfl ⟨rfl, rfl⟩

theorem l1Form_any {f wd p t S D : Int} (hF : Form f wd p t S D) (w : World) :
    Calls Tryd.prog 23 #[.int .i64 f] w fun e w' => e = .returned (.tuple #[.int .i64 wd, .int .i64 p, .int .i64 t, .bool true]) ∧ w' = w := by
  rcases hF with ⟨rfl, rfl, rfl, rfl, rfl, rfl⟩ | ⟨rfl, rfl, rfl, rfl, rfl, rfl⟩ | ⟨rfl, rfl, rfl, rfl, rfl, rfl⟩
  all_goals
    go_enter Tryd.func23, Tryd.ntmps23
    go_wp2
    refine bodyPost_ret (v := .tuple #[.int .i64 _, .int .i64 _, .int .i64 _, .bool true]) (by simp [results, Tryd.results23, go_sem]) rfl ⟨rfl, rfl⟩

theorem l1Are_no (form x : Int) (w : World) (h : form < 1 ∨ 3 < form) :
    Calls Tryd.prog 14 #[.int .i64 form, .int .u64 x] w fun e w' => e = .returned (.bool false) ∧ w' = w := by
  go_enter Tryd.func14, Tryd.ntmps14
  go_wp2_with (go_at_call 23; refine (l1Form_no _ _ h).mono ?_; rintro e w' ⟨rfl, rfl⟩)
  go_ret
  exact ⟨rfl, rfl⟩

theorem l1Are_any {f wd p t S D : Int} (hF : Form f wd p t S D) (x : Int) (h0 : 0 ≤ x) (h1 : x < 18446744073709551616) (w : World) :
    Calls Tryd.prog 14 #[.int .i64 f, .int .u64 x] w fun e w' => e = .returned (.bool (x / D == 0)) ∧ w' = w := by
  have hF' := hF
  rcases hF with ⟨rfl, rfl, rfl, rfl, rfl, rfl⟩ | ⟨rfl, rfl, rfl, rfl, rfl, rfl⟩ | ⟨rfl, rfl, rfl, rfl, rfl, rfl⟩
  · go_enter Tryd.func14, Tryd.ntmps14
    go_wp2_with (go_at_call 23; refine (l1Form_any hF' _).mono ?_; rintro e w' ⟨rfl, rfl⟩)
    go_ret
    exact ⟨rfl, rfl⟩
  · go_enter Tryd.func14, Tryd.ntmps14
    go_wp2_with (go_at_call 23; refine (l1Form_any hF' _).mono ?_; rintro e w' ⟨rfl, rfl⟩)
    go_ret
    exact ⟨rfl, rfl⟩
  · have h2 : (x / 18446744073709551616 == 0) = true := by
      rw [beq_iff_eq]
      exact Int.ediv_eq_zero_of_lt h0 h1
    rw [h2]
    clear h2 h1
    go_enter Tryd.func14, Tryd.ntmps14
    go_wp2_with (go_at_call 23; refine (l1Form_any hF' _).mono ?_; rintro e w' ⟨rfl, rfl⟩)
    go_ret
    exact ⟨rfl, rfl⟩

theorem l1Sign_true {f wd p t S D : Int} (hF : Form f wd p t S D) (w : World) :
    Calls Tryd.prog 15 #[.int .i64 f, .bool true] w fun e w' => e = .returned (.int .u64 S) ∧ w' = w := by
  have hF' := hF
  rcases hF with ⟨rfl, rfl, rfl, rfl, rfl, rfl⟩ | ⟨rfl, rfl, rfl, rfl, rfl, rfl⟩ | ⟨rfl, rfl, rfl, rfl, rfl, rfl⟩
  all_goals
    go_enter Tryd.func15, Tryd.ntmps15
    go_wp2_with (go_at_call 23; refine (l1Form_any hF' _).mono ?_; rintro e w' ⟨rfl, rfl⟩)
    go_ret
    exact ⟨rfl, rfl⟩

theorem sorder_no (form x y : Int) (w : World) (h : form < 1 ∨ 3 < form) :
    Calls Tryd.prog 7 #[.int .i64 form, .int .u64 x, .int .u64 y] w fun e w' => e = .returned (.int .i64 2) ∧ w' = w := by
  go_enter Tryd.func7, Tryd.ntmps7
  go_wp2_with (go_at_call 14; refine (l1Are_no _ _ _ h).mono ?_; rintro e w' ⟨rfl, rfl⟩)
  go_ret
  exact ⟨rfl, rfl⟩

/-- The order of all bits, of a form whose sign bit is S. -/
def ord (S x y : Int) : Int :=
  if x = y then 0 else if S ≤ x ∧ y < S then -1 else if x < S ∧ S ≤ y then 1 else if (x < S ∧ x < y) ∨ (S ≤ x ∧ y < x) then -1 else 1

theorem and_any {f wd p t S D : Int} (hF : Form f wd p t S D) (x : Int) (h0 : 0 ≤ x) (h1 : x < D) :
    bits .and .u64 x S = (if x < S then 0 else S) ∧ bits .andNot .u64 x S = (if x < S then x else x - S) := by
  rcases hF with ⟨rfl, rfl, rfl, rfl, rfl, rfl⟩ | ⟨rfl, rfl, rfl, rfl, rfl, rfl⟩ | ⟨rfl, rfl, rfl, rfl, rfl, rfl⟩
  · exact and16 x h0 h1
  · exact and32 x h0 h1
  · exact and64 x h0 h1

set_option maxHeartbeats 1000000 in
theorem sorder_yes {f wd p t S D : Int} (hF : Form f wd p t S D) (x y : Int) (w : World) (hx0 : 0 ≤ x) (hx1 : x < D) (hy0 : 0 ≤ y) (hy1 : y < D) :
    Calls Tryd.prog 7 #[.int .i64 f, .int .u64 x, .int .u64 y] w fun e w' => e = .returned (.int .i64 (ord S x y)) ∧ w' = w := by
  have hS : (S == 0) = false := by rcases hF with ⟨_, _, _, _, rfl, _⟩ | ⟨_, _, _, _, rfl, _⟩ | ⟨_, _, _, _, rfl, _⟩ <;> rfl
  have hD : D ≤ 18446744073709551616 := by rcases hF with ⟨_, _, _, _, _, rfl⟩ | ⟨_, _, _, _, _, rfl⟩ | ⟨_, _, _, _, _, rfl⟩ <;> decide
  have hxa := fun w => l1Are_any hF x hx0 (by omega) w
  have hya := fun w => l1Are_any hF y hy0 (by omega) w
  have hax := (and_any hF x hx0 hx1).1
  have hay := (and_any hF y hy0 hy1).1
  rw [Int.ediv_eq_zero_of_lt hx0 hx1] at hxa
  rw [Int.ediv_eq_zero_of_lt hy0 hy1] at hya
  have hsg := fun w => l1Sign_true hF w
  clear hD hF
  unfold ord
  by_cases hx : x < S <;> by_cases hy : y < S
  all_goals simp only [hx, hy, if_true, if_false] at hax hay
  all_goals rcases Int.lt_trichotomy x y with h | h | h
  all_goals simp only [Int.lt_irrefl, h]
  all_goals
    go_enter Tryd.func7, Tryd.ntmps7
    go_wp2_with (first | (go_at_call 14; (first | with_reducible refine (hxa _).mono ?_ | with_reducible refine (hya _).mono ?_); rintro e w' ⟨rfl, rfl⟩) | (go_at_call 15; refine (hsg _).mono ?_; rintro e w' ⟨rfl, rfl⟩))
  all_goals (go_ret; exact ⟨rfl, rfl⟩)
end Go.Proofs.YtmoeojmnfcbdaaaDoor
