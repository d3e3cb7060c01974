/- The program's small methods on a form: sign bit, infinity, quiet bit, plain NaN, whether bits are a NaN. -/
import Derived.Test.YtmoeojmnfcbdaaaDoorU3
import Derived.RegionTactic
import Derived.Deep.RegionWith
namespace Go.Proofs.YtmoeojmnfcbdaaaDoor
open Go.RowKit

/-- A row of the table, boxed. -/
abbrev shpObj (wd p t : Int) : Obj := .cells #[.int .i64 wd, .int .i64 p, .int .i64 t] 31

theorem signBit_any {f wd p t S D h q : Int} (hF : Frm f wd p t S D h q) (w : World) :
    Calls Tryd.prog 19 #[.agg #[.int .i64 wd, .int .i64 p, .int .i64 t]] w fun e w' => e = .returned (.int .u64 S) ∧ w' = w.alloc (shpObj wd p t) := by
  rcases hF with ⟨rfl, rfl, rfl, rfl, rfl, rfl, rfl, rfl⟩ | ⟨rfl, rfl, rfl, rfl, rfl, rfl, rfl, rfl⟩ | ⟨rfl, rfl, rfl, rfl, rfl, rfl, rfl, rfl⟩
  all_goals
    go_enter Tryd.func19, Tryd.ntmps19
    go_wp2
    go_ret
    exact ⟨rfl, rfl⟩

theorem infinity_any {f wd p t S D h q : Int} (hF : Frm f wd p t S D h q) (w : World) :
    Calls Tryd.prog 18 #[.agg #[.int .i64 wd, .int .i64 p, .int .i64 t]] w fun e w' => e = .returned (.int .u64 ((2 * t + 1) * h)) ∧ w' = w.alloc (shpObj wd p t) := by
  rcases hF with ⟨rfl, rfl, rfl, rfl, rfl, rfl, rfl, rfl⟩ | ⟨rfl, rfl, rfl, rfl, rfl, rfl, rfl, rfl⟩ | ⟨rfl, rfl, rfl, rfl, rfl, rfl, rfl, rfl⟩
  all_goals
    go_enter Tryd.func18, Tryd.ntmps18
    go_wp2
    go_ret
    exact ⟨rfl, rfl⟩

theorem quietBit_any {f wd p t S D h q : Int} (hF : Frm f wd p t S D h q) (w : World) :
    Calls Tryd.prog 24 #[.agg #[.int .i64 wd, .int .i64 p, .int .i64 t]] w fun e w' => e = .returned (.int .u64 (h / 2)) ∧ w' = w.alloc (shpObj wd p t) := by
  rcases hF with ⟨rfl, rfl, rfl, rfl, rfl, rfl, rfl, rfl⟩ | ⟨rfl, rfl, rfl, rfl, rfl, rfl, rfl, rfl⟩ | ⟨rfl, rfl, rfl, rfl, rfl, rfl, rfl, rfl⟩
  all_goals
    go_enter Tryd.func24, Tryd.ntmps24
    go_wp2
    go_ret
    exact ⟨rfl, rfl⟩

theorem below_34 {w : World} (o o' o'' : Obj) : Below w.heap.size w (((w.alloc o).alloc o').alloc o'') := (below_two o o').alloc (by simp; omega) _

theorem below_34d {w : World} (o o' o'' : Obj) : Below w.heap.size w (((w.alloc o).alloc o').alloc o'').drew := (below_34 o o' o'').drew

set_option maxHeartbeats 1000000 in
theorem isNan_any {f wd p t S D h q : Int} (hF : Frm f wd p t S D h q) (x : Int) (w : World) (h0 : 0 ≤ x) (h1 : x < D) :
    Calls Tryd.prog 16 #[.agg #[.int .i64 wd, .int .i64 p, .int .i64 t], .int .u64 x] w fun e w' => e = .returned (.bool (decide ((2 * t + 1) * h < sz S x))) ∧ Below w.heap.size w w' := by
  have e : bits .andNot .u64 x S = sz S x := (and_any hF.form x h0 h1).2
  have hS := fun w => signBit_any hF w
  have hI := fun w => infinity_any hF w
  generalize sz S x = s at *
  generalize (2 * t + 1) * h = i at *
  clear h0 h1 hF
  go_enter Tryd.func16, Tryd.ntmps16
  go_wp2
  go_region_with (first | (go_at_call 19; refine (hS _).mono ?_; rintro e w' ⟨rfl, rfl⟩) | (go_at_call 18; refine (hI _).mono ?_; rintro e w' ⟨rfl, rfl⟩))
  all_goals (go_wp2; go_ret; exact ⟨rfl, below_34d _ _ _⟩)

set_option maxHeartbeats 1000000 in
theorem plainNan_any {f wd p t S D h q : Int} (hF : Frm f wd p t S D h q) (w : World) :
    Calls Tryd.prog 17 #[.agg #[.int .i64 wd, .int .i64 p, .int .i64 t]] w fun e w' => e = .returned (.int .u64 ((2 * t + 1) * h + h / 2)) ∧ Below w.heap.size w w' := by
  have e : bits .or .u64 ((2 * t + 1) * h) (h / 2) = (2 * t + 1) * h + h / 2 := by
    rcases hF with ⟨rfl, rfl, rfl, rfl, rfl, rfl, rfl, rfl⟩ | ⟨rfl, rfl, rfl, rfl, rfl, rfl, rfl, rfl⟩ | ⟨rfl, rfl, rfl, rfl, rfl, rfl, rfl, rfl⟩ <;> decide
  have hS := fun w => quietBit_any hF w
  have hI := fun w => infinity_any hF w
  generalize (2 * t + 1) * h + h / 2 = n at *
  generalize (2 * t + 1) * h = i at *
  generalize h / 2 = j at *
  clear hF
  go_enter Tryd.func17, Tryd.ntmps17
  go_wp2
  go_region_with (first | (go_at_call 24; refine (hS _).mono ?_; rintro e w' ⟨rfl, rfl⟩) | (go_at_call 18; refine (hI _).mono ?_; rintro e w' ⟨rfl, rfl⟩))
  all_goals (go_wp2; go_ret; exact ⟨rfl, below_34d _ _ _⟩)
end Go.Proofs.YtmoeojmnfcbdaaaDoor
