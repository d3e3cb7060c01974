/- FnPairs: the law. -/
import Derived.Test.YtbogkkkfbimacaaPw
import Derived.Test.YtbogkkkfbimacaaDr
import Derived.Test.YtbogkkkfbimacaaQH7
namespace Go.Proofs.Ytbogkkkfbimacaa
open Go.RowKit

theorem tb_cn {x y : Nat} (h : cn x = cn y) : Q.tb x = Q.tb y := by
  unfold Q.tb
  cases hx : (Ieee.double.read x).isNaN with
  | true =>
    cases hy : (Ieee.double.read y).isNaN with
    | true => rfl
    | false => rw [cn_none hx, cn_some hy] at h; cases h
  | false =>
    cases hy : (Ieee.double.read y).isNaN with
    | true => rw [cn_some hx, cn_none hy] at h; cases h
    | false =>
      rw [cn_some hx, cn_some hy] at h
      simp only [Bool.false_eq_true, if_false]
      exact Option.some.inj h

set_option maxHeartbeats 1000000 in
theorem to_nan {x : Nat} (hn : (Ieee.double.read x).isNaN = true) (w : World) : Calls Try.prog 36 #[.float .f64 x] w fun e w' => e = .returned (.int .u64 (Q.tb x : Nat)) ∧ Below w.heap.size w w' := by
  have o1 := order_nan hn
  have hp := fun w => Q.l1Plain_any Q.dbl w
  have ht : Q.tb x = 9221120237041090560 := by simp [Q.tb, hn]
  rw [ht]
  clear hn ht
  go_enter Try.func36, Try.ntmps36
  go_wp2_with (go_at_call 40; refine (hp _).mono ?_; rintro e w' ⟨rfl, hw⟩; obtain rfl := hw.symm)
  go_ret
  exact ⟨rfl, Below.refl _ _⟩

theorem to_any {x : Nat} (h : Bd x) (w : World) : Calls Try.prog 36 #[.float .f64 x] w fun e w' => e = .returned (.int .u64 (Q.tb x : Nat)) ∧ Below w.heap.size w w' := by
  rcases h with h | h
  · refine to_nan ?_ w
    cases hh : (Ieee.double.read x).isNaN with
    | true => rfl
    | false => rw [cn_some hh] at h; cases h
  · exact Q.to_spec x h w

set_option maxHeartbeats 1000000 in
theorem same_any {a b : Nat} (ha : Bd a) (hb : Bd b) (h : cn a = cn b) (w : World) : Calls Try.prog 27 #[.float .f64 a, .float .f64 b] w fun e w' => e = .returned (.bool true) ∧ Below w.heap.size w w' := by
  have ht : Q.tb a = Q.tb b := tb_cn h
  have h1 := fun w => to_any ha w
  have h2 := fun w => to_any hb w
  rw [← ht] at h2
  generalize Q.tb a = t at *
  clear h ha hb ht
  go_enter Try.func27, Try.ntmps27
  have HB : Hid (Below w.heap.size w w) := Below.refl _ _
  go_wp2_with (go_at_call 36; (first | with_reducible refine (h1 _).mono ?_ | with_reducible refine (h2 _).mono ?_); rintro e w' ⟨rfl, hb⟩; have HB : Hid _ := bstep HB.out hb; clear hb)
  go_ret
  exact ⟨rfl, HB.out⟩

set_option maxHeartbeats 1000000 in
theorem samePair_any {x y u v : Nat} (h1 : cn x = cn u) (h2 : cn y = cn v) (bx : Bd x) (by_ : Bd y) (bu : Bd u) (bv : Bd v) (w : World) : Calls Try.prog 10 #[Pv x y, Pv u v] w fun e w' => e = .returned (.bool true) ∧ Below w.heap.size w w' := by
  have e1 := fun W => same_any bx bu h1 W
  have e2 := fun W => same_any by_ bv h2 W
  have hB0 : Below w.heap.size w ((w.alloc (.cells #[.float .f64 x, .float .f64 y] 26)).alloc (.cells #[.float .f64 u, .float .f64 v] 26)) := by
    repeat first | exact Below.refl _ _ | refine Below.alloc ?_ (by simp; try omega) _
  have f0 := (Rb.new w x y 26 rfl).alloc (.cells #[.float .f64 u, .float .f64 v] 26)
  have f1 := Rb.new (w.alloc (.cells #[.float .f64 x, .float .f64 y] 26)) u v 26 (g := w.heap.size + 1) (by simp)
  clear h1 h2 bx by_ bu bv
  go_enter Try.func10, Try.ntmps10
  go_wp2_with (first
    | (go_at_call 27; (fail_if_success have := hb1); refine (e1 _).mono ?_; rintro e w1 ⟨rfl, hb1⟩; obtain ⟨g0, g1, _, _⟩ := f0.call hb1; obtain ⟨k0, k1, _, _⟩ := f1.call hb1)
    | (go_at_call 27; refine (e2 _).mono ?_; rintro e w2 ⟨rfl, hb2⟩))
  go_ret
  exact ⟨rfl, bstep (bstep hB0 hb1) hb2⟩

theorem walk_pairs {w : World} {a : Option Addr} {n cap : Nat} (hr : Row w a n) (hn : n ≤ 9223372036854775807) : Calls Try.prog 3 #[.slice a n cap] w fun e w' => e = .returned (.bool true) ∧ Below w.heap.size w w' :=
  walk_pairs_of hn (fun h => draw_any hr h) (fun _ _ _ _ h1 h2 b1 b2 b3 b4 W => samePair_any h1 h2 b1 b2 b3 b4 W)
end Go.Proofs.Ytbogkkkfbimacaa
