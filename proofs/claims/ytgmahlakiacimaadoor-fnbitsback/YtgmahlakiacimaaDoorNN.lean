/- The program's isNan. -/
import Derived.Test.YtgmahlakiacimaaDoorN1
namespace Go.Proofs.YtgmahlakiacimaaDoor
open Go.RowKit

set_option maxHeartbeats 1000000 in
theorem isNan_any {f wd p t S D h q : Int} (hF : Frm f wd p t S D h q) (x : Int) (w : World) (h0 : 0 ≤ x) (h1 : x < D) :
    Calls Tryd.prog 35 #[.agg #[.int .i64 wd, .int .i64 p, .int .i64 t], .int .u64 x] w fun e w' => e = .returned (.bool (decide ((2 * t + 1) * h < sz S x))) ∧ Below w.heap.size w w' := by
  have e : bits .andNot .u64 x S = sz S x := (and_any hF.form x h0 h1).2
  have hS := fun w => signBit_any hF w
  have hI := fun w => infinity_any hF w
  generalize sz S x = s at *
  generalize (2 * t + 1) * h = i at *
  clear h0 h1 hF
  go_enter Tryd.func35, Tryd.ntmps35
  go_wp2
  go_region_with (first | (go_at_call 48; refine (hS _).mono ?_; rintro e w' ⟨rfl, rfl⟩) | (go_at_call 84; refine (hI _).mono ?_; rintro e w' ⟨rfl, rfl⟩))
  all_goals (go_wp2; go_ret; exact ⟨rfl, below_34d _ _ _⟩)

end Go.Proofs.YtgmahlakiacimaaDoor
