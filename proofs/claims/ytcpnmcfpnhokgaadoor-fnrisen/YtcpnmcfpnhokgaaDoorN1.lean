/- The program's small methods on a form: sign bit, infinity, quiet bit, plain NaN, whether bits are a NaN. -/
import Derived.Test.YtcpnmcfpnhokgaaDoorU3
import Derived.RegionTactic
import Derived.Deep.RegionWith
namespace Go.Proofs.YtcpnmcfpnhokgaaDoor
open Go.RowKit

/-- A row of the table, boxed. -/
abbrev shpObj (wd p t : Int) : Obj := .cells #[.int .i64 wd, .int .i64 p, .int .i64 t] 54

theorem signBit_any {f wd p t S D h q : Int} (hF : Frm f wd p t S D h q) (w : World) :
    Calls Tryd.prog 35 #[.agg #[.int .i64 wd, .int .i64 p, .int .i64 t]] w fun e w' => e = .returned (.int .u64 S) ∧ w' = w.alloc (shpObj wd p t) := by
  rcases hF with ⟨rfl, rfl, rfl, rfl, rfl, rfl, rfl, rfl⟩ | ⟨rfl, rfl, rfl, rfl, rfl, rfl, rfl, rfl⟩ | ⟨rfl, rfl, rfl, rfl, rfl, rfl, rfl, rfl⟩
  all_goals
    go_enter Tryd.func35, Tryd.ntmps35
    go_wp2
    go_ret
    exact ⟨rfl, rfl⟩

theorem infinity_any {f wd p t S D h q : Int} (hF : Frm f wd p t S D h q) (w : World) :
    Calls Tryd.prog 36 #[.agg #[.int .i64 wd, .int .i64 p, .int .i64 t]] w fun e w' => e = .returned (.int .u64 ((2 * t + 1) * h)) ∧ w' = w.alloc (shpObj wd p t) := by
  rcases hF with ⟨rfl, rfl, rfl, rfl, rfl, rfl, rfl, rfl⟩ | ⟨rfl, rfl, rfl, rfl, rfl, rfl, rfl, rfl⟩ | ⟨rfl, rfl, rfl, rfl, rfl, rfl, rfl, rfl⟩
  all_goals
    go_enter Tryd.func36, Tryd.ntmps36
    go_wp2
    go_ret
    exact ⟨rfl, rfl⟩

theorem quietBit_any {f wd p t S D h q : Int} (hF : Frm f wd p t S D h q) (w : World) :
    Calls Tryd.prog 85 #[.agg #[.int .i64 wd, .int .i64 p, .int .i64 t]] w fun e w' => e = .returned (.int .u64 (h / 2)) ∧ w' = w.alloc (shpObj wd p t) := by
  rcases hF with ⟨rfl, rfl, rfl, rfl, rfl, rfl, rfl, rfl⟩ | ⟨rfl, rfl, rfl, rfl, rfl, rfl, rfl, rfl⟩ | ⟨rfl, rfl, rfl, rfl, rfl, rfl, rfl, rfl⟩
  all_goals
    go_enter Tryd.func85, Tryd.ntmps85
    go_wp2
    go_ret
    exact ⟨rfl, rfl⟩

theorem below_34 {w : World} (o o' o'' : Obj) : Below w.heap.size w (((w.alloc o).alloc o').alloc o'') := (below_two o o').alloc (by simp; omega) _

theorem below_34d {w : World} (o o' o'' : Obj) : Below w.heap.size w (((w.alloc o).alloc o').alloc o'').drew := (below_34 o o' o'').drew

set_option maxHeartbeats 1000000 in
theorem plainNan_any {f wd p t S D h q : Int} (hF : Frm f wd p t S D h q) (w : World) :
    Calls Tryd.prog 59 #[.agg #[.int .i64 wd, .int .i64 p, .int .i64 t]] w fun e w' => e = .returned (.int .u64 ((2 * t + 1) * h + h / 2)) ∧ Below w.heap.size w w' := by
  have e : bits .or .u64 ((2 * t + 1) * h) (h / 2) = (2 * t + 1) * h + h / 2 := by
    rcases hF with ⟨rfl, rfl, rfl, rfl, rfl, rfl, rfl, rfl⟩ | ⟨rfl, rfl, rfl, rfl, rfl, rfl, rfl, rfl⟩ | ⟨rfl, rfl, rfl, rfl, rfl, rfl, rfl, rfl⟩ <;> decide
  have hS := fun w => quietBit_any hF w
  have hI := fun w => infinity_any hF w
  generalize (2 * t + 1) * h + h / 2 = n at *
  generalize (2 * t + 1) * h = i at *
  generalize h / 2 = j at *
  clear hF
  go_enter Tryd.func59, Tryd.ntmps59
  go_wp2
  go_region_with (first | (go_at_call 85; refine (hS _).mono ?_; rintro e w' ⟨rfl, rfl⟩) | (go_at_call 36; refine (hI _).mono ?_; rintro e w' ⟨rfl, rfl⟩))
  all_goals (go_wp2; go_ret; exact ⟨rfl, below_34d _ _ _⟩)
end Go.Proofs.YtcpnmcfpnhokgaaDoor
