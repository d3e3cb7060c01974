/- The walk of the law of Order: it answers true, and old memory stays as it was. -/
import Derived.Test.YtcpnmcfpnhokgaaDoorW3m
import Derived.Test.YtcpnmcfpnhokgaaDoorW4
namespace Go.Proofs.YtcpnmcfpnhokgaaDoor
open Go.RowKit

theorem sorder_bad {f wd p t S D : Int} (hF : Form f wd p t S D) (x y : Int) (w : World) (hx0 : 0 ≤ x) (hx1 : x < 18446744073709551616) (hy0 : 0 ≤ y) (hy1 : y < 18446744073709551616) (h : D ≤ x ∨ D ≤ y) :
    Calls Tryd.prog 50 #[.int .i64 f, .int .u64 x, .int .u64 y] w fun e w' => e = .returned (.int .i64 2) ∧ w' = w := by
  have hD : 0 < D := by rcases hF with ⟨_, _, _, _, _, rfl⟩ | ⟨_, _, _, _, _, rfl⟩ | ⟨_, _, _, _, _, rfl⟩ <;> decide
  have hxa := fun w => l1Are_any hF x hx0 hx1 w
  have hya := fun w => l1Are_any hF y hy0 hy1 w
  clear hx1 hy1
  by_cases hx : D ≤ x
  · rw [div_no hD hx] at hxa
    go_enter Tryd.func50, Tryd.ntmps50
    go_wp2_with (go_at_call 39; refine (hxa _).mono ?_; rintro e w' ⟨rfl, rfl⟩)
    go_ret
    exact ⟨rfl, rfl⟩
  · rw [div_no hD (by omega)] at hya
    by_cases hxd : (x / D == 0) = true
    · rw [hxd] at hxa
      go_enter Tryd.func50, Tryd.ntmps50
      go_wp2_with (go_at_call 39; (first | with_reducible refine (hxa _).mono ?_ | with_reducible refine (hya _).mono ?_); rintro e w' ⟨rfl, rfl⟩)
      go_ret
      exact ⟨rfl, rfl⟩
    · rw [Bool.eq_false_iff.2 hxd] at hxa
      go_enter Tryd.func50, Tryd.ntmps50
      go_wp2_with (go_at_call 39; refine (hxa _).mono ?_; rintro e w' ⟨rfl, rfl⟩)
      go_ret
      exact ⟨rfl, rfl⟩

end Go.Proofs.YtcpnmcfpnhokgaaDoor
