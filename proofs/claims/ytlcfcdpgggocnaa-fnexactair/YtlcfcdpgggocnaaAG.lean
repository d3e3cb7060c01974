/- pointTurned. -/
import Derived.Test.YtlcfcdpgggocnaaAF
namespace Go.Proofs.Ytlcfcdpgggocnaa
open Go.RowKit

theorem rStoreC (a : Addr) (x y : Nat) (m : Mode) (w : World) : (store a (.complex .f64 x y) m).run Try.prog w = stored Try.prog w a (.complex .f64 x y) m := run_store Try.prog w a _ m rfl

theorem v_one : V 4607182418800017408 1 := by have := fk_V 1; rwa [show fk 1 = 4607182418800017408 by decide +kernel] at this
theorem v_nil : V 0 0 := by have := fk_V 0; rwa [show fk 0 = 0 by decide +kernel] at this
theorem v_neg : V 13830554455654793216 (-1) := by have := fk_V (-1); rwa [show fk (-1) = 13830554455654793216 by decide +kernel] at this

set_option maxHeartbeats 2000000 in
theorem turned_0 {x y : Int} (hx : Smp x) (hy : Smp y) (w : World) : Calls Try.prog 20 #[.agg #[.int .i64 x, .int .i64 y], .int .i64 0] w fun e w' => e = .returned (.agg #[.int .i64 (x), .int .i64 (y)]) ∧ Below w.heap.size w w' := by
  have hx' : x.natAbs ≤ 1000000000 := by unfold Smp at hx; omega
  have hy' : y.natAbs ≤ 1000000000 := by unfold Smp at hy; omega
  obtain ⟨e, f, hm, ve, vf⟩ := cmul_V (fk_V x) (fk_V y) v_one v_nil hx' hy' (by decide) (by decide)
  have i1 := V_int ve (by omega)
  have i2 := V_int vf (by omega)
  rw [show x * 1 - y * 0 = x by omega] at i1
  rw [show x * 0 + y * 1 = y by omega] at i2
  have cv1 : ∀ W : World, (convert 44 3 (.float .f64 e)).run Try.prog W = .ok (.int .i64 (x)) W := fun W => run_convert_float_int W 44 3 .f64 .i64 e _ (by kernel_rfl) (by kernel_rfl) i1
  have cv2 : ∀ W : World, (convert 44 3 (.float .f64 f)).run Try.prog W = .ok (.int .i64 (y)) W := fun W => run_convert_float_int W 44 3 .f64 .i64 f _ (by kernel_rfl) (by kernel_rfl) i2
  have hST := rStoreC
  have hm2 := hm 42
  clear ve vf hm i1 i2 hx hy hx' hy'
  go_enter Try.func20, Try.ntmps20
  go_upto_region 2 with fail
  go_quiet (fail)
  go_wp2
  refine bodyPost_ret (v := .agg #[.int .i64 (x), .int .i64 (y)]) (by simp [results, Try.results20, go_sem]) rfl ?_
  refine ⟨rfl, ?_⟩
  repeat first
    | exact (below_one _ _)
    | (refine Below.setCell ?_ (by simp <;> omega) _)
    | (refine below_drewN ?_ _)
    | (refine Below.alloc ?_ (by simp <;> omega) _)

set_option maxHeartbeats 2000000 in
theorem turned_1 {x y : Int} (hx : Smp x) (hy : Smp y) (w : World) : Calls Try.prog 20 #[.agg #[.int .i64 x, .int .i64 y], .int .i64 1] w fun e w' => e = .returned (.agg #[.int .i64 (-y), .int .i64 (x)]) ∧ Below w.heap.size w w' := by
  have hx' : x.natAbs ≤ 1000000000 := by unfold Smp at hx; omega
  have hy' : y.natAbs ≤ 1000000000 := by unfold Smp at hy; omega
  obtain ⟨e, f, hm, ve, vf⟩ := cmul_V (fk_V x) (fk_V y) v_nil v_one hx' hy' (by decide) (by decide)
  have i1 := V_int ve (by omega)
  have i2 := V_int vf (by omega)
  rw [show x * 0 - y * 1 = -y by omega] at i1
  rw [show x * 1 + y * 0 = x by omega] at i2
  have cv1 : ∀ W : World, (convert 44 3 (.float .f64 e)).run Try.prog W = .ok (.int .i64 (-y)) W := fun W => run_convert_float_int W 44 3 .f64 .i64 e _ (by kernel_rfl) (by kernel_rfl) i1
  have cv2 : ∀ W : World, (convert 44 3 (.float .f64 f)).run Try.prog W = .ok (.int .i64 (x)) W := fun W => run_convert_float_int W 44 3 .f64 .i64 f _ (by kernel_rfl) (by kernel_rfl) i2
  have hST := rStoreC
  have hm2 := hm 42
  clear ve vf hm i1 i2 hx hy hx' hy'
  go_enter Try.func20, Try.ntmps20
  go_upto_region 2 with fail
  go_quiet (fail)
  go_wp2
  refine bodyPost_ret (v := .agg #[.int .i64 (-y), .int .i64 (x)]) (by simp [results, Try.results20, go_sem]) rfl ?_
  refine ⟨rfl, ?_⟩
  repeat first
    | exact (below_one _ _)
    | (refine Below.setCell ?_ (by simp <;> omega) _)
    | (refine below_drewN ?_ _)
    | (refine Below.alloc ?_ (by simp <;> omega) _)

set_option maxHeartbeats 2000000 in
theorem turned_2 {x y : Int} (hx : Smp x) (hy : Smp y) (w : World) : Calls Try.prog 20 #[.agg #[.int .i64 x, .int .i64 y], .int .i64 2] w fun e w' => e = .returned (.agg #[.int .i64 (-x), .int .i64 (-y)]) ∧ Below w.heap.size w w' := by
  have hx' : x.natAbs ≤ 1000000000 := by unfold Smp at hx; omega
  have hy' : y.natAbs ≤ 1000000000 := by unfold Smp at hy; omega
  obtain ⟨e, f, hm, ve, vf⟩ := cmul_V (fk_V x) (fk_V y) v_neg v_nil hx' hy' (by decide) (by decide)
  have i1 := V_int ve (by omega)
  have i2 := V_int vf (by omega)
  rw [show x * (-1) - y * 0 = -x by omega] at i1
  rw [show x * 0 + y * (-1) = -y by omega] at i2
  have cv1 : ∀ W : World, (convert 44 3 (.float .f64 e)).run Try.prog W = .ok (.int .i64 (-x)) W := fun W => run_convert_float_int W 44 3 .f64 .i64 e _ (by kernel_rfl) (by kernel_rfl) i1
  have cv2 : ∀ W : World, (convert 44 3 (.float .f64 f)).run Try.prog W = .ok (.int .i64 (-y)) W := fun W => run_convert_float_int W 44 3 .f64 .i64 f _ (by kernel_rfl) (by kernel_rfl) i2
  have hST := rStoreC
  have hm2 := hm 42
  clear ve vf hm i1 i2 hx hy hx' hy'
  go_enter Try.func20, Try.ntmps20
  go_upto_region 2 with fail
  go_quiet (fail)
  go_wp2
  refine bodyPost_ret (v := .agg #[.int .i64 (-x), .int .i64 (-y)]) (by simp [results, Try.results20, go_sem]) rfl ?_
  refine ⟨rfl, ?_⟩
  repeat first
    | exact (below_one _ _)
    | (refine Below.setCell ?_ (by simp <;> omega) _)
    | (refine below_drewN ?_ _)
    | (refine Below.alloc ?_ (by simp <;> omega) _)

set_option maxHeartbeats 2000000 in
theorem turned_3 {x y : Int} (hx : Smp x) (hy : Smp y) (w : World) : Calls Try.prog 20 #[.agg #[.int .i64 x, .int .i64 y], .int .i64 3] w fun e w' => e = .returned (.agg #[.int .i64 (y), .int .i64 (-x)]) ∧ Below w.heap.size w w' := by
  have hx' : x.natAbs ≤ 1000000000 := by unfold Smp at hx; omega
  have hy' : y.natAbs ≤ 1000000000 := by unfold Smp at hy; omega
  obtain ⟨e, f, hm, ve, vf⟩ := cmul_V (fk_V x) (fk_V y) v_nil v_neg hx' hy' (by decide) (by decide)
  have i1 := V_int ve (by omega)
  have i2 := V_int vf (by omega)
  rw [show x * 0 - y * (-1) = y by omega] at i1
  rw [show x * (-1) + y * 0 = -x by omega] at i2
  have cv1 : ∀ W : World, (convert 44 3 (.float .f64 e)).run Try.prog W = .ok (.int .i64 (y)) W := fun W => run_convert_float_int W 44 3 .f64 .i64 e _ (by kernel_rfl) (by kernel_rfl) i1
  have cv2 : ∀ W : World, (convert 44 3 (.float .f64 f)).run Try.prog W = .ok (.int .i64 (-x)) W := fun W => run_convert_float_int W 44 3 .f64 .i64 f _ (by kernel_rfl) (by kernel_rfl) i2
  have hST := rStoreC
  have hm2 := hm 42
  clear ve vf hm i1 i2 hx hy hx' hy'
  go_enter Try.func20, Try.ntmps20
  go_upto_region 2 with fail
  go_quiet (fail)
  go_wp2
  refine bodyPost_ret (v := .agg #[.int .i64 (y), .int .i64 (-x)]) (by simp [results, Try.results20, go_sem]) rfl ?_
  refine ⟨rfl, ?_⟩
  repeat first
    | exact (below_one _ _)
    | (refine Below.setCell ?_ (by simp <;> omega) _)
    | (refine below_drewN ?_ _)
    | (refine Below.alloc ?_ (by simp <;> omega) _)

theorem turned_any {q : Nat} (hq : q < 4) {x y : Int} (hx : Smp x) (hy : Smp y) (w : World) : Calls Try.prog 20 #[.agg #[.int .i64 x, .int .i64 y], .int .i64 (q : Int)] w fun e w' => e = .returned (.agg #[.int .i64 (tx q x y), .int .i64 (ty q x y)]) ∧ Below w.heap.size w w' := by
  rcases (show q = 0 ∨ q = 1 ∨ q = 2 ∨ q = 3 by omega) with rfl | rfl | rfl | rfl
  · simpa [tx, ty] using turned_0 hx hy w
  · simpa [tx, ty] using turned_1 hx hy w
  · simpa [tx, ty] using turned_2 hx hy w
  · simpa [tx, ty] using turned_3 hx hy w
end Go.Proofs.Ytlcfcdpgggocnaa
