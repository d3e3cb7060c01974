/- The walks of the model's Order. -/
import Derived.WalkSpells
import Derived.WalkLawsBesides
import Derived.Test.YtcpnmcfpnhokgaaDoorW2m
import Derived.Test.YtcpnmcfpnhokgaaDoorW3
import Derived.Test.YtcpnmcfpnhokgaaDoorW4
namespace Go.Proofs.YtcpnmcfpnhokgaaDoor
open Go.RowKit

theorem sorder_no (form x y : Int) (w : World) (h : form < 1 ∨ 3 < form) :
    Calls Tryd.prog 50 #[.int .i64 form, .int .u64 x, .int .u64 y] w fun e w' => e = .returned (.int .i64 2) ∧ w' = w := by
  go_enter Tryd.func50, Tryd.ntmps50
  go_wp2_with (go_at_call 39; refine (l1Are_no _ _ _ h).mono ?_; rintro e w' ⟨rfl, rfl⟩)
  go_ret
  exact ⟨rfl, rfl⟩

set_option maxHeartbeats 1000000 in
theorem sorder_yes {f wd p t S D : Int} (hF : Form f wd p t S D) (x y : Int) (w : World) (hx0 : 0 ≤ x) (hx1 : x < D) (hy0 : 0 ≤ y) (hy1 : y < D) :
    Calls Tryd.prog 50 #[.int .i64 f, .int .u64 x, .int .u64 y] w fun e w' => e = .returned (.int .i64 (ord S x y)) ∧ w' = w := by
  have hS : (S == 0) = false := by rcases hF with ⟨_, _, _, _, rfl, _⟩ | ⟨_, _, _, _, rfl, _⟩ | ⟨_, _, _, _, rfl, _⟩ <;> rfl
  have hD : D ≤ 18446744073709551616 := by rcases hF with ⟨_, _, _, _, _, rfl⟩ | ⟨_, _, _, _, _, rfl⟩ | ⟨_, _, _, _, _, rfl⟩ <;> decide
  have hxa := fun w => l1Are_any hF x hx0 (by omega) w
  have hya := fun w => l1Are_any hF y hy0 (by omega) w
  have hax := (and_any hF x hx0 hx1).1
  have hay := (and_any hF y hy0 hy1).1
  rw [Int.ediv_eq_zero_of_lt hx0 hx1] at hxa
  rw [Int.ediv_eq_zero_of_lt hy0 hy1] at hya
  have hsg := fun w => l1Sign_true hF w
  clear hD hF
  unfold ord
  by_cases hx : x < S <;> by_cases hy : y < S
  all_goals simp only [hx, hy, if_true, if_false] at hax hay
  all_goals rcases Int.lt_trichotomy x y with h | h | h
  all_goals simp only [Int.lt_irrefl, h]
  all_goals
    go_enter Tryd.func50, Tryd.ntmps50
    go_wp2_with (first | (go_at_call 39; (first | with_reducible refine (hxa _).mono ?_ | with_reducible refine (hya _).mono ?_); rintro e w' ⟨rfl, rfl⟩) | (go_at_call 44; refine (hsg _).mono ?_; rintro e w' ⟨rfl, rfl⟩))
  all_goals (go_ret; exact ⟨rfl, rfl⟩)
end Go.Proofs.YtcpnmcfpnhokgaaDoor
