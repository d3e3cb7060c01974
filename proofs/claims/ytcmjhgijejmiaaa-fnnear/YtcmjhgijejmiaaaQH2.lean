/- FromBits on both sides. -/
import Derived.Test.YtcmjhgijejmiaaaQH1
import Derived.Test.YtcmjhgijejmiaaaQF1
import Derived.Test.YtcmjhgijejmiaaaQG0
import Derived.Test.YtcmjhgijejmiaaaQNN
import Derived.Laws.Externs
namespace Go.Proofs.Ytcmjhgijejmiaaa.Q
open Go.RowKit

theorem rFl (op : BinOp) {x y r : Nat} (h : floatBits op .f64 x y = some r) (t : TypeId) (w : World) : (binOp op t (.float .f64 x) (.float .f64 y)).run Try.prog w = .ok (.float .f64 r) w := run_float_arith w op t .f64 x y r h

theorem rNeg (b : Nat) (w : World) : (Op.unary .neg (.float .f64 b)).run Try.prog w = .ok (.float .f64 (Op.negFloat .f64 b)) w := rfl

theorem bstep {w w1 w2 : World} (h1 : Below w.heap.size w w1) (h2 : Below w1.heap.size w1 w2) : Below w.heap.size w w2 := h1.trans (h2.mono h1.size)

theorem zero_neg : Op.negFloat .f64 0 = 9223372036854775808 := by decide

theorem zero_any (s : Bool) (w : World) : Calls Try.prog 25 #[.bool s] w fun e w' => e = .returned (.float .f64 (Ieee.double.word s 0)) ∧ w' = w := by
  have hn := rNeg
  have hz := zero_neg
  cases s
  all_goals
    go_enter Try.func25, Try.ntmps25
    go_wp2
    go_ret
    exact ⟨rfl, rfl⟩

theorem run_quo (x y : Nat) (t : TypeId) (w : World) : (binOp .quo t (.float .f64 x) (.float .f64 y)).run Try.prog w = .ok (.float .f64 (fres .quo w x y)) (fwor .quo w x y) := run_fop .quo (by simp) _ t x y w

theorem nan_any (w : World) : Calls Try.prog 24 #[] w fun e w' => (∃ r, e = .returned (.float .f64 r) ∧ cn r = none) ∧ Below w.heap.size w w' := by
  have hz := zero_any false
  have hq := run_quo
  go_enter Try.func24, Try.ntmps24
  go_wp2_with (go_at_call 25; refine (hz _).mono ?_; rintro e w' ⟨rfl, hw⟩; obtain rfl := hw.symm)
  go_ret
  refine ⟨⟨_, rfl, ?_⟩, below_fwor (Below.refl _ _) _ _ _⟩
  rw [cn_fres]
  decide +kernel

theorem inf_quo (s : Bool) : floatBits .quo .f64 4607182418800017408 (Ieee.double.word s 0) = some (Ieee.double.word s 9218868437227405312) := by
  cases s <;> decide +kernel
end Go.Proofs.Ytcmjhgijejmiaaa.Q
