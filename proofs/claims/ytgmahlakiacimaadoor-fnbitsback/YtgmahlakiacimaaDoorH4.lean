/- The program's FromBits, and the law. -/
import Derived.Test.YtgmahlakiacimaaDoorH3
namespace Go.Proofs.YtgmahlakiacimaaDoor
open Go.RowKit

theorem shp_below {w w' : World} (hs : Shp w) (hz : 0 < w.heap.size) (hb : Below w.heap.size w w') : Shp w' := by
  obtain ⟨c0, c1, c2, c3, c4, c5, c6, c7, c8, c9, c10, c11⟩ := hs
  constructor <;> rw [hb.cell (show 0 < _ from hz)] <;> assumption

theorem shp_pos {w : World} (hs : Shp w) : 0 < w.heap.size := World.block_lt_of_cell? w _ hs.c0

theorem keepc {W w1 : World} (hb : Below W.heap.size W w1) {a : Addr} {v : Value} (h : W.cell? a = some v) : w1.cell? a = some v := (hb.cell (World.block_lt_of_cell? W _ h)).trans h

theorem run_from (x : Nat) (w : World) : (callFunc 37 #[.int .u64 (x : Nat)]).run Tryd.prog w = .ok (.value (.float .f64 x)) w := by
  rw [run_callFunc_extern Tryd.func37 (by kernel_rfl) (by kernel_rfl) (by kernel_rfl) (e := Extern.MathFloatBits.float64frombits) (by kernel_rfl)]
  rfl

theorem sz_nat (x : Nat) (hx : x < 18446744073709551616) : sz 9223372036854775808 (x : Int) = ((x % 9223372036854775808 : Nat) : Int) := by
  unfold sz
  split <;> omega

theorem nan_rung {x : Nat} : (Ieee.double.read x).isNaN = decide (9218868437227405312 < x % 9223372036854775808) := by
  unfold Ieee.Format.read
  simp only [e_sign, e_bin, e_inf, e_least]
  split
  · rw [decide_eq_false (by omega)]; rfl
  · split
    · rw [decide_eq_false (by omega)]; rfl
    · split
      · rw [decide_eq_false (by omega)]; rfl
      · rw [decide_eq_true (by omega)]; rfl

set_option maxRecDepth 20000 in
set_option maxHeartbeats 2000000 in
theorem from_impl (x : Nat) (hx : x < 18446744073709551616) (w : World) (hs : Shp w) : Calls Tryd.prog 10 #[.int .u64 (x : Nat)] w fun e w' => (∃ r, e = .returned (.float .f64 r) ∧ r < 18446744073709551616 ∧ cn r = cn x ∧ ((Ieee.double.read x).isNaN = true → r = 9221120237041090560)) ∧ Below w.heap.size w w' := by
  have hN := fun w => isNan_any dbl (x : Nat) w (by omega) (by omega)
  have hP := fun w => plainNan_any dbl w
  have hF := run_from
  rw [sz_nat x hx] at hN
  obtain ⟨c0, c1, c2, c3, c4, c5, c6, c7, c8, c9, c10, c11⟩ := hs
  have s0 : (w.alloc (.cells #[.int .i64 64, .int .i64 53, .int .i64 1023] 52)).cell? ⟨w.heap.size, 0, none⟩ = some (.int .i64 64) := by simp
  have s1 : (w.alloc (.cells #[.int .i64 64, .int .i64 53, .int .i64 1023] 52)).cell? ⟨w.heap.size, 1, none⟩ = some (.int .i64 53) := by simp
  have s2 : (w.alloc (.cells #[.int .i64 64, .int .i64 53, .int .i64 1023] 52)).cell? ⟨w.heap.size, 2, none⟩ = some (.int .i64 1023) := by simp
  have hb0 : Below w.heap.size w (w.alloc (.cells #[.int .i64 64, .int .i64 53, .int .i64 1023] 52)) := below_one _
  by_cases h : 9218868437227405312 < x % 9223372036854775808
  · have hnan : (Ieee.double.read x).isNaN = true := by rw [nan_rung, decide_eq_true h]
    rw [decide_eq_true (by omega)] at hN
    have hcx : cn x = none := cn_none hnan
    rw [hcx]
    clear hcx hnan h
    have hF2 : ∀ w, (callFunc 37 #[.int .u64 9221120237041090560]).run Tryd.prog w = .ok (.value (.float .f64 9221120237041090560)) w := fun w => run_from 9221120237041090560 w
    go_enter Tryd.func10, Tryd.ntmps10
    go_wp2_with (first
      | (go_at_call 35; refine (hN _).mono ?_; rintro e w1 ⟨rfl, hb1⟩; have q0 := keepc hb1 s0; have q1 := keepc hb1 s1; have q2 := keepc hb1 s2)
      | (go_at_call 36; refine (hP _).mono ?_; rintro e w2 ⟨rfl, hb2⟩))
    go_ret
    exact ⟨⟨_, rfl, by decide, by decide +kernel, fun _ => rfl⟩, bstep (bstep hb0 hb1) hb2⟩
  · have hnan : (Ieee.double.read x).isNaN = false := by rw [nan_rung, decide_eq_false h]
    rw [decide_eq_false (by omega)] at hN
    have HN : Hid _ := hnan
    clear hnan h
    go_enter Tryd.func10, Tryd.ntmps10
    go_wp2_with (first
      | (go_at_call 35; refine (hN _).mono ?_; rintro e w1 ⟨rfl, hb1⟩))
    go_ret
    exact ⟨⟨_, rfl, hx, rfl, fun h => by rw [HN.out] at h; cases h⟩, bstep hb0 hb1⟩

end Go.Proofs.YtgmahlakiacimaaDoor
