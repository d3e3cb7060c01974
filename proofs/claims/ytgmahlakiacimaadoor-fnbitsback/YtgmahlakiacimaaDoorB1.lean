/- The law: drawn bits come back from their float64. -/
import Derived.Test.YtgmahlakiacimaaDoorH8
import Derived.Test.YtgmahlakiacimaaDoorD4
import Derived.RegionTactic
import Derived.Deep.RegionWith
import Derived.Deep.RegionHeld3
namespace Go.Proofs.YtgmahlakiacimaaDoor
open Go.RowKit

theorem tb_cn {x y : Nat} (h : cn x = cn y) : tb x = tb y := by
  unfold tb
  cases hx : (Ieee.double.read x).isNaN with
  | true =>
    cases hy : (Ieee.double.read y).isNaN with
    | true => rfl
    | false => rw [cn_none hx, cn_some hy] at h; cases h
  | false =>
    cases hy : (Ieee.double.read y).isNaN with
    | true => rw [cn_some hx, cn_none hy] at h; cases h
    | false =>
      rw [cn_some hx, cn_some hy] at h
      simp only [Bool.false_eq_true, if_false]
      exact Option.some.inj h

theorem cn_tb (x : Nat) : cn (tb x) = cn x := by
  unfold tb
  cases hx : (Ieee.double.read x).isNaN with
  | true => rw [if_pos rfl, cn_none hx]; decide +kernel
  | false => rw [if_neg (by decide)]

theorem tb_lt {x : Nat} (h : x < 18446744073709551616) : tb x < 18446744073709551616 := by
  unfold tb
  split
  · decide
  · exact h

set_option maxHeartbeats 1000000 in
/-- Two floats that are the same: same says so. -/
theorem lsame_yes (a b : Nat) (ha : a < 18446744073709551616) (hb : b < 18446744073709551616) (h : tb a = tb b) (w : World) : Calls Tryd.prog 11 #[.float .f64 a, .float .f64 b] w fun e w' => e = .returned (.bool true) ∧ Below w.heap.size w w' := by
  have h1 := fun w => to_spec a ha w
  have h2 := fun w => to_spec b hb w
  rw [← h] at h2
  generalize tb a = t at *
  clear h ha hb
  go_enter Tryd.func11, Tryd.ntmps11
  have HB : Hid (Below w.heap.size w w) := Below.refl _ _
  go_wp2_with (go_at_call 38; (first | with_reducible refine (h1 _).mono ?_ | with_reducible refine (h2 _).mono ?_); rintro e w' ⟨rfl, hb⟩; have HB : Hid _ := bstep HB.out hb; clear hb)
  go_ret
  exact ⟨rfl, HB.out⟩

/-- The kind of bits. -/
theorem unp_kind {x : Nat} (hx : x < 18446744073709551616) (w : World) : Calls Tryd.prog 19 #[.int .i64 3, .int .u64 (x : Nat)] w fun e w' => ∃ (K E M : Int) (n : Bool), (K == 3) = (Ieee.double.read x).isNaN ∧ e = .returned (.agg #[.int .i64 K, .bool n, .int .i64 E, .int .u64 M]) ∧ Below w.heap.size w w' := by
  rcases read_cases x hx with h | ⟨s, h, hw⟩ | ⟨s, h, hw⟩ | h
  · exact (unp_nan hx h w).mono fun e w' ⟨he, hb⟩ => ⟨3, 0, 0, false, by rw [h]; rfl, he, hb⟩
  · have := unp_inf s w
    rw [← hw] at this
    exact this.mono fun e w' ⟨he, hb⟩ => ⟨2, 0, 0, s, by rw [h]; rfl, he, hb⟩
  · have := unp_zero s w
    rw [← hw] at this
    exact this.mono fun e w' ⟨he, hb⟩ => ⟨0, 0, 0, s, by rw [h]; rfl, he, hb⟩
  · obtain ⟨s, m, p, h0, h⟩ : ∃ (s : Bool) (m : Nat) (p : Int), m ≠ 0 ∧ Ieee.double.read x = .number s m p := by
      rcases h with ⟨s, m, d, a1, a2, a3, a4, a5, a6, a7⟩ | ⟨s, m, e, a1, a2, a3, a4, a5⟩
      · exact ⟨s, m, _, by omega, a6⟩
      · exact ⟨s, m, _, by omega, a4⟩
    exact (unp_fin hx h h0 w).mono fun e w' ⟨k, M, _, he, hb⟩ => ⟨1, _, _, s, by rw [h]; rfl, he, hb⟩

set_option maxHeartbeats 1000000 in
theorem drawFrom_any {w : World} {a : Option Addr} {len cap : Nat} (hr : Row w a len) (hl : (len : Int) ≤ 4611686018427387904) :
    Calls Tryd.prog 18 #[.slice a len cap] w fun e w' => ∃ x : Nat, x < 18446744073709551616 ∧ e = .returned (.int .u64 (x : Nat)) ∧ Below w.heap.size w w' := by
  have hn := new_any (cap := cap) hr hl
  clear hr hl
  go_enter Tryd.func18, Tryd.ntmps18
  go_wp2_with (first
    | (go_at_call 52; refine hn.mono ?_; rintro e w1 ⟨rfl, hc⟩; have HC : Hid _ := hc; clear hc)
    | (go_at_call 51; refine (dbits_any HC.out dbl).mono ?_; rintro e w2 ⟨x, h0, h1, rfl, hc2⟩; have HC2 : Hid _ := hc2; clear hc2))
  go_ret
  obtain ⟨n, rfl⟩ := Int.eq_ofNat_of_zero_le h0
  exact ⟨n, by omega, rfl, HC2.out.below⟩

theorem tb_tb (x : Nat) : tb (tb x) = tb x := tb_cn (cn_tb x)

theorem from_at {x : Nat} (hx : x < 18446744073709551616) (w : World) (hs : Shp w) : Calls Tryd.prog 10 #[.int .u64 (x : Nat)] w fun e w' => e = .returned (.float .f64 (tb x)) ∧ Below w.heap.size w w' := by
  refine (from_impl x hx w hs).mono ?_
  rintro e w' ⟨⟨r, rfl, _, hr, hn⟩, hb⟩
  refine ⟨?_, hb⟩
  unfold tb
  cases h : (Ieee.double.read x).isNaN with
  | true => rw [if_pos rfl, hn h]
  | false =>
    rw [if_neg (by decide)]
    rw [cn_some h] at hr
    cases h2 : (Ieee.double.read r).isNaN with
    | true => rw [cn_none h2] at hr; cases hr
    | false => rw [cn_some h2] at hr; rw [Option.some.inj hr]

theorem fldK (k u m : Int) (b : Bool) (w : World) : (Instr.field 35 (.agg #[.int .i64 k, .bool b, .int .i64 u, .int .u64 m]) 0).run Tryd.prog w = .ok (.int .i64 k) w := by kernel_rfl

set_option maxRecDepth 20000 in
set_option maxHeartbeats 4000000 in
theorem walk_back {w : World} {a : Option Addr} {len cap : Nat} (hs : Shp w) (hr : Row w a len) :
    Calls Tryd.prog 4 #[.slice a len cap] w fun e w' => e = .returned (.bool true) ∧ Below w.heap.size w w' := by
  by_cases hbig : (1048576 : Int) < len
  · go_enter Tryd.func4, Tryd.ntmps4
    go_wp2
    go_ret
    exact ⟨rfl, Below.refl _ _⟩
  · have hl : (len : Int) ≤ 4611686018427387904 := by omega
    have hz := shp_pos hs
    have HD : Hid (∀ cap, Calls Tryd.prog 18 #[.slice a len cap] w fun e w' => ∃ x : Nat, x < 18446744073709551616 ∧ e = .returned (.int .u64 (x : Nat)) ∧ Below w.heap.size w w') := fun cap => drawFrom_any hr hl
    have HS : Hid (Shp w) := hs
    clear hr hs hl
    go_enter Tryd.func4, Tryd.ntmps4
    go_wp2_with (first | (go_at_call 8; go_in) | (go_at_call 18; refine (HD.out _).mono ?_; rintro e w1 ⟨x, hx, rfl, hb⟩; have HB : Hid (Below w.heap.size w w1) := hb; clear hb))
    have f1 := fun W (hb : Below w.heap.size w W) => from_at hx W (shp_below HS.out hz hb)
    have f2 := fun W (hb : Below w.heap.size w W) => from_at (tb_lt hx) W (shp_below HS.out hz hb)
    have f3 := fun W (hb : Below w.heap.size w W) => to_impl (tb x) W (shp_below HS.out hz hb)
    rw [tb_tb] at f2 f3
    have f4 := fun W => unp_kind hx W
    have f5 := fun W => lsame_yes (tb x) (tb x) (tb_lt hx) (tb_lt hx) rfl W
    have f6 := fun W => spack_nan dbl 1 0 0 false W (by decide) (by decide)
    have f7 := fldK
    cases hn : (Ieee.double.read x).isNaN with
    | true =>
      have ht : tb x = 9221120237041090560 := by simp [tb, hn]
      have o1 : FloatKind.f64.format.order 9221120237041090560 9221120237041090560 = none := by decide +kernel
      rw [ht] at f1 f2 f3 f5
      rw [hn] at f4
      have f8 : ∀ W, Below w.heap.size w W → Calls Tryd.prog 10 #[.int .u64 9221120237041090560] W fun e w' => e = .returned (.float .f64 9221120237041090560) ∧ Below W.heap.size W w' := f2
      clear ht hn f2
      go_wp2_with (first
        | (go_at_call 10; (first | (with_reducible refine (f1 _ HB.out).mono ?_) | (with_reducible refine (f8 _ HB.out).mono ?_)); rintro e w' ⟨rfl, hb⟩; have HB : Hid _ := bstep HB.out hb; clear hb)
        | (go_at_call 13; refine (f3 _ HB.out).mono ?_; rintro e w' ⟨rfl, hb⟩; have HB : Hid _ := bstep HB.out hb; clear hb)
        | (go_at_call 19; refine (f4 _).mono ?_; rintro e w' ⟨K, E, M, n, hK, rfl, hb⟩; have hK2 : (K != 3) = false := congrArg not hK; have HB : Hid _ := bstep HB.out hb; clear hb)
        | (go_at_call 20; refine (f6 _).mono ?_; rintro e w' ⟨rfl, hb⟩; have HB : Hid _ := bstep HB.out hb; clear hb)
        | (go_at_call 11; refine (f5 _).mono ?_; rintro e w' ⟨rfl, hb⟩; have HB : Hid _ := bstep HB.out hb; clear hb))
      go_ret
      exact ⟨rfl, HB.out⟩
    | false =>
      have ht : tb x = x := by simp [tb, hn]
      have o1 := order_same hn
      rw [ht] at f1 f2 f3 f5
      rw [hn] at f4
      clear ht hn
      go_wp2_with (first
        | (go_at_call 10; (with_reducible refine (f1 _ HB.out).mono ?_); rintro e w' ⟨rfl, hb⟩; have HB : Hid _ := bstep HB.out hb; clear hb)
        | (go_at_call 13; refine (f3 _ HB.out).mono ?_; rintro e w' ⟨rfl, hb⟩; have HB : Hid _ := bstep HB.out hb; clear hb)
        | (go_at_call 19; refine (f4 _).mono ?_; rintro e w' ⟨K, E, M, n, hK, rfl, hb⟩; have hK2 : (K != 3) = true := congrArg not hK; have HB : Hid _ := bstep HB.out hb; clear hb)
        | (go_at_call 11; refine (f5 _).mono ?_; rintro e w' ⟨rfl, hb⟩; have HB : Hid _ := bstep HB.out hb; clear hb))
      go_ret
      exact ⟨rfl, HB.out⟩
end Go.Proofs.YtgmahlakiacimaaDoor
