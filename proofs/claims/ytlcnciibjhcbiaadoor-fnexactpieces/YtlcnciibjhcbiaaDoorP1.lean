/- Pairs: the operations on both sides. -/
import Derived.Test.YtlcnciibjhcbiaaDoorF1
namespace Go.Proofs.YtlcnciibjhcbiaaDoor
open Go.RowKit

theorem rAdd (t : TypeId) (x y : Nat) (w : World) : (binOp .add t (.float .f64 x) (.float .f64 y)).run Tryd.prog w = .ok (.float .f64 (fres .add w x y)) (fwor .add w x y) := run_fop .add (by simp) _ t x y w
theorem rSub (t : TypeId) (x y : Nat) (w : World) : (binOp .sub t (.float .f64 x) (.float .f64 y)).run Tryd.prog w = .ok (.float .f64 (fres .sub w x y)) (fwor .sub w x y) := run_fop .sub (by simp) _ t x y w
theorem rMul (t : TypeId) (x y : Nat) (w : World) : (binOp .mul t (.float .f64 x) (.float .f64 y)).run Tryd.prog w = .ok (.float .f64 (fres .mul w x y)) (fwor .mul w x y) := run_fop .mul (by simp) _ t x y w
theorem rQuo (t : TypeId) (x y : Nat) (w : World) : (binOp .quo t (.float .f64 x) (.float .f64 y)).run Tryd.prog w = .ok (.float .f64 (fres .quo w x y)) (fwor .quo w x y) := run_fop .quo (by simp) _ t x y w

theorem run_arith (op : BinOp) (hop : op = .add ∨ op = .sub ∨ op = .mul ∨ op = .quo) (P : Program) (x y : Nat) (w : World) : (Op.Complex.arith op .f64 x y).run P w = .ok (fres op w x y) (fwor op w x y) := by
  have h := run_fop op hop P 0 x y w
  have e : binOp op 0 (.float .f64 x) (.float .f64 y) = Op.floatArith op .f64 x y := by rcases hop with rfl | rfl | rfl | rfl <;> rfl
  rw [e] at h
  simp [Op.Complex.arith, h]

theorem rcAdd (t : TypeId) (a b c d : Nat) (w : World) : (binOp .add t (.complex .f64 a b) (.complex .f64 c d)).run Tryd.prog w = .ok (.complex .f64 (fres .add w a c) (fres .add (fwor .add w a c) b d)) (fwor .add (fwor .add w a c) b d) := by
  simp [binOp, Op.complexOp, run_arith]

theorem rcSub (t : TypeId) (a b c d : Nat) (w : World) : (binOp .sub t (.complex .f64 a b) (.complex .f64 c d)).run Tryd.prog w = .ok (.complex .f64 (fres .sub w a c) (fres .sub (fwor .sub w a c) b d)) (fwor .sub (fwor .sub w a c) b d) := by
  simp [binOp, Op.complexOp, run_arith]

/-- A pair as a value. -/
abbrev Pv (a b : Nat) : Value := .agg #[.float .f64 a, .float .f64 b]

theorem bstep {w w1 w2 : World} (h1 : Below w.heap.size w w1) (h2 : Below w1.heap.size w1 w2) : Below w.heap.size w w2 := h1.trans (h2.mono h1.size)

theorem below_one (w : World) (o : Obj) : Below w.heap.size w (w.alloc o) := (Below.refl _ _).alloc (Nat.le_refl _) _

theorem rStore (a : Addr) (x : Nat) (m : Mode) (w : World) : (store a (.float .f64 x) m).run Tryd.prog w = stored Tryd.prog w a (.float .f64 x) m := run_store Tryd.prog w a _ m rfl

theorem keepc {W w1 : World} (hb : Below W.heap.size W w1) {a : Addr} {v : Value} (h : W.cell? a = some v) : w1.cell? a = some v := (hb.cell (World.block_lt_of_cell? W _ h)).trans h
theorem keepf {W w1 : World} (hb : Below W.heap.size W w1) {a : Addr} {v : Value} (h : W.cell? a = some v) (hf : W.frozen? a = false) : w1.frozen? a = false := (hb.frozen (World.block_lt_of_cell? W _ h)).trans hf

set_option maxHeartbeats 1000000 in
theorem toPair_any (a b : Nat) (w : World) : Calls Tryd.prog 26 #[Pv a b] w fun e w' => e = .returned (Pv a b) ∧ Below w.heap.size w w' := by
  have hST := rStore
  go_enter Tryd.func26, Tryd.ntmps26
  go_wp2
  refine bodyPost_ret (v := Pv a b) (by simp [results, Tryd.results26, go_sem]) rfl ⟨rfl, ?_⟩
  repeat first | exact Below.refl _ _ | refine Below.setCell ?_ (by simp; try omega) _ | refine Below.alloc ?_ (by simp; try omega) _

set_option maxHeartbeats 1000000 in
theorem toC_any (a b : Nat) (w : World) : Calls Tryd.prog 43 #[Pv a b] w fun e w' => e = .returned (.complex .f64 a b) ∧ Below w.heap.size w w' := by
  go_enter Tryd.func43, Tryd.ntmps43
  go_wp2
  go_ret
  exact ⟨rfl, below_one _ _⟩

set_option maxHeartbeats 1000000 in
theorem toP_any (a b : Nat) (w : World) : Calls Tryd.prog 49 #[.complex .f64 a b] w fun e w' => e = .returned (Pv a b) ∧ Below w.heap.size w w' := by
  have hST := rStore
  go_enter Tryd.func49, Tryd.ntmps49
  go_wp2
  refine bodyPost_ret (v := Pv a b) (by simp [results, Tryd.results49, go_sem]) rfl ⟨rfl, ?_⟩
  repeat first | exact Below.refl _ _ | refine Below.setCell ?_ (by simp; try omega) _ | refine Below.alloc ?_ (by simp; try omega) _

set_option maxHeartbeats 1000000 in
theorem sAdd_any (a b c d : Nat) (w : World) : Calls Tryd.prog 21 #[Pv a b, Pv c d] w fun e w' => ∃ x y, e = .returned (Pv x y) ∧ cn x = cop .add (cn a) (cn c) ∧ cn y = cop .add (cn b) (cn d) ∧ Below w.heap.size w w' := by
  have hA := rAdd
  have hfc := fwor_cell
  have hff := fwor_frozen
  have hST := rStore
  go_enter Tryd.func21, Tryd.ntmps21
  go_wp2
  refine bodyPost_ret (v := Pv _ _) (by simp [results, Tryd.results21, fwor_cell, go_sem]; exact ⟨rfl, rfl⟩) rfl ⟨_, _, rfl, cn_fres _ _ _ _, cn_fres _ _ _ _, ?_⟩
  repeat first | exact Below.refl _ _ | apply below_fwor | refine Below.setCell ?_ (by simp; try omega) _ | refine Below.alloc ?_ (by simp; try omega) _

set_option maxHeartbeats 1000000 in
theorem sSub_any (a b c d : Nat) (w : World) : Calls Tryd.prog 51 #[Pv a b, Pv c d] w fun e w' => ∃ x y, e = .returned (Pv x y) ∧ cn x = cop .sub (cn a) (cn c) ∧ cn y = cop .sub (cn b) (cn d) ∧ Below w.heap.size w w' := by
  have hA := rSub
  have hfc := fwor_cell
  have hff := fwor_frozen
  have hST := rStore
  go_enter Tryd.func51, Tryd.ntmps51
  go_wp2
  refine bodyPost_ret (v := Pv _ _) (by simp [results, Tryd.results51, fwor_cell, go_sem]; exact ⟨rfl, rfl⟩) rfl ⟨_, _, rfl, cn_fres _ _ _ _, cn_fres _ _ _ _, ?_⟩
  repeat first | exact Below.refl _ _ | apply below_fwor | refine Below.setCell ?_ (by simp; try omega) _ | refine Below.alloc ?_ (by simp; try omega) _

/-- The parts of a product. -/
def cre (a b c d : Option Nat) : Option Nat := cop .sub (cop .mul a c) (cop .mul b d)
def cim (a b c d : Option Nat) : Option Nat := cop .add (cop .mul a d) (cop .mul b c)

set_option maxHeartbeats 1000000 in
theorem sMul_any (a b c d : Nat) (w : World) : Calls Tryd.prog 22 #[Pv a b, Pv c d] w fun e w' => ∃ x y, e = .returned (Pv x y) ∧ cn x = cre (cn a) (cn b) (cn c) (cn d) ∧ cn y = cim (cn a) (cn b) (cn c) (cn d) ∧ Below w.heap.size w w' := by
  have hA := rAdd
  have hS := rSub
  have hM := rMul
  have hfc := fwor_cell
  have hff := fwor_frozen
  have hST := rStore
  go_enter Tryd.func22, Tryd.ntmps22
  go_wp2
  refine bodyPost_ret (v := Pv _ _) (by simp [results, Tryd.results22, fwor_cell, go_sem]; exact ⟨rfl, rfl⟩) rfl ⟨_, _, rfl, ?_, ?_, ?_⟩
  · simp only [cn_fres, cre]
  · simp only [cn_fres, cim]
  repeat first | exact Below.refl _ _ | apply below_fwor | refine Below.setCell ?_ (by simp; try omega) _ | refine Below.alloc ?_ (by simp; try omega) _

set_option maxHeartbeats 1000000 in
theorem times_any (a b c d : Nat) (w : World) : Calls Tryd.prog 32 #[.complex .f64 a b, .complex .f64 c d] w fun e w' => ∃ x y, e = .returned (.complex .f64 x y) ∧ cn x = cre (cn a) (cn b) (cn c) (cn d) ∧ cn y = cim (cn a) (cn b) (cn c) (cn d) ∧ Below w.heap.size w w' := by
  have hA := rAdd
  have hS := rSub
  have hM := rMul
  go_enter Tryd.func32, Tryd.ntmps32
  go_wp2
  go_ret
  refine ⟨_, _, rfl, ?_, ?_, ?_⟩
  · simp only [cn_fres, cre]
  · simp only [cn_fres, cim]
  repeat first | exact Below.refl _ _ | apply below_fwor

end Go.Proofs.YtlcnciibjhcbiaaDoor
