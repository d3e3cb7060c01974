/- Whether two floats are the same, all NaNs being one. -/
import Derived.Test.YtcmjhgijejmiaaaBn
import Derived.Test.YtcmjhgijejmiaaaP1
import Derived.Test.YtcmjhgijejmiaaaQH7
namespace Go.Proofs.Ytcmjhgijejmiaaa
open Go.RowKit

theorem tb_cn {x y : Nat} (h : cn x = cn y) : Q.tb x = Q.tb y := by
  unfold Q.tb
  cases hx : (Ieee.double.read x).isNaN with
  | true =>
    cases hy : (Ieee.double.read y).isNaN with
    | true => rfl
    | false => rw [cn_none hx, cn_some hy] at h; cases h
  | false =>
    cases hy : (Ieee.double.read y).isNaN with
    | true => rw [cn_some hx, cn_none hy] at h; cases h
    | false =>
      rw [cn_some hx, cn_some hy] at h
      simp only [Bool.false_eq_true, if_false]
      exact Option.some.inj h

set_option maxHeartbeats 1000000 in
theorem to_nan {x : Nat} (hn : (Ieee.double.read x).isNaN = true) (w : World) : Calls Try.prog 15 #[.float .f64 x] w fun e w' => e = .returned (.int .u64 (Q.tb x : Nat)) ∧ Below w.heap.size w w' := by
  have o1 := order_nan hn
  have hp := fun w => Q.l1Plain_any Q.dbl w
  have ht : Q.tb x = 9221120237041090560 := by simp [Q.tb, hn]
  rw [ht]
  clear hn ht
  go_enter Try.func15, Try.ntmps15
  go_wp2_with (go_at_call 19; refine (hp _).mono ?_; rintro e w' ⟨rfl, hw⟩; obtain rfl := hw.symm)
  go_ret
  exact ⟨rfl, Below.refl _ _⟩

theorem to_any {x : Nat} (h : Bd x) (w : World) : Calls Try.prog 15 #[.float .f64 x] w fun e w' => e = .returned (.int .u64 (Q.tb x : Nat)) ∧ Below w.heap.size w w' := by
  rcases h with h | h
  · refine to_nan ?_ w
    cases hh : (Ieee.double.read x).isNaN with
    | true => rfl
    | false => rw [cn_some hh] at h; cases h
  · exact Q.to_spec x h w

set_option maxHeartbeats 1000000 in
theorem same_any {a b : Nat} (ha : Bd a) (hb : Bd b) (h : cn a = cn b) (w : World) : Calls Try.prog 7 #[.float .f64 a, .float .f64 b] w fun e w' => e = .returned (.bool true) ∧ Below w.heap.size w w' := by
  have ht : Q.tb a = Q.tb b := tb_cn h
  have h1 := fun w => to_any ha w
  have h2 := fun w => to_any hb w
  rw [← ht] at h2
  generalize Q.tb a = t at *
  clear h ha hb ht
  go_enter Try.func7, Try.ntmps7
  have HB : Hid (Below w.heap.size w w) := Below.refl _ _
  go_wp2_with (go_at_call 15; (first | with_reducible refine (h1 _).mono ?_ | with_reducible refine (h2 _).mono ?_); rintro e w' ⟨rfl, hb⟩; have HB : Hid _ := bstep HB.out hb; clear hb)
  go_ret
  exact ⟨rfl, HB.out⟩

end Go.Proofs.Ytcmjhgijejmiaaa
