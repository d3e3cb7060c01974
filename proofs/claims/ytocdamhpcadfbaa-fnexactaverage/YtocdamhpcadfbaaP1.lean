/- Pairs: the operations on both sides. -/
import Derived.Test.YtocdamhpcadfbaaF1
namespace Go.Proofs.Ytocdamhpcadfbaa
open Go.RowKit

theorem rAdd (t : TypeId) (x y : Nat) (w : World) : (binOp .add t (.float .f64 x) (.float .f64 y)).run Try.prog w = .ok (.float .f64 (fres .add w x y)) (fwor .add w x y) := run_fop .add (by simp) _ t x y w
theorem rSub (t : TypeId) (x y : Nat) (w : World) : (binOp .sub t (.float .f64 x) (.float .f64 y)).run Try.prog w = .ok (.float .f64 (fres .sub w x y)) (fwor .sub w x y) := run_fop .sub (by simp) _ t x y w
theorem rMul (t : TypeId) (x y : Nat) (w : World) : (binOp .mul t (.float .f64 x) (.float .f64 y)).run Try.prog w = .ok (.float .f64 (fres .mul w x y)) (fwor .mul w x y) := run_fop .mul (by simp) _ t x y w
theorem rQuo (t : TypeId) (x y : Nat) (w : World) : (binOp .quo t (.float .f64 x) (.float .f64 y)).run Try.prog w = .ok (.float .f64 (fres .quo w x y)) (fwor .quo w x y) := run_fop .quo (by simp) _ t x y w

theorem run_arith (op : BinOp) (hop : op = .add ∨ op = .sub ∨ op = .mul ∨ op = .quo) (P : Program) (x y : Nat) (w : World) : (Op.Complex.arith op .f64 x y).run P w = .ok (fres op w x y) (fwor op w x y) := by
  have h := run_fop op hop P 0 x y w
  have e : binOp op 0 (.float .f64 x) (.float .f64 y) = Op.floatArith op .f64 x y := by rcases hop with rfl | rfl | rfl | rfl <;> rfl
  rw [e] at h
  simp [Op.Complex.arith, h]

theorem rcAdd (t : TypeId) (a b c d : Nat) (w : World) : (binOp .add t (.complex .f64 a b) (.complex .f64 c d)).run Try.prog w = .ok (.complex .f64 (fres .add w a c) (fres .add (fwor .add w a c) b d)) (fwor .add (fwor .add w a c) b d) := by
  simp [binOp, Op.complexOp, run_arith]

theorem rcSub (t : TypeId) (a b c d : Nat) (w : World) : (binOp .sub t (.complex .f64 a b) (.complex .f64 c d)).run Try.prog w = .ok (.complex .f64 (fres .sub w a c) (fres .sub (fwor .sub w a c) b d)) (fwor .sub (fwor .sub w a c) b d) := by
  simp [binOp, Op.complexOp, run_arith]

/-- A pair as a value. -/
abbrev Pv (a b : Nat) : Value := .agg #[.float .f64 a, .float .f64 b]

theorem bstep {w w1 w2 : World} (h1 : Below w.heap.size w w1) (h2 : Below w1.heap.size w1 w2) : Below w.heap.size w w2 := h1.trans (h2.mono h1.size)

theorem below_one (w : World) (o : Obj) : Below w.heap.size w (w.alloc o) := (Below.refl _ _).alloc (Nat.le_refl _) _

theorem rStore (a : Addr) (x : Nat) (m : Mode) (w : World) : (store a (.float .f64 x) m).run Try.prog w = stored Try.prog w a (.float .f64 x) m := run_store Try.prog w a _ m rfl

theorem keepc {W w1 : World} (hb : Below W.heap.size W w1) {a : Addr} {v : Value} (h : W.cell? a = some v) : w1.cell? a = some v := (hb.cell (World.block_lt_of_cell? W _ h)).trans h
theorem keepf {W w1 : World} (hb : Below W.heap.size W w1) {a : Addr} {v : Value} (h : W.cell? a = some v) (hf : W.frozen? a = false) : w1.frozen? a = false := (hb.frozen (World.block_lt_of_cell? W _ h)).trans hf

set_option maxHeartbeats 1000000 in
theorem toPair_any (a b : Nat) (w : World) : Calls Try.prog 21 #[Pv a b] w fun e w' => e = .returned (Pv a b) ∧ Below w.heap.size w w' := by
  have hST := rStore
  go_enter Try.func21, Try.ntmps21
  go_wp2
  refine bodyPost_ret (v := Pv a b) (by simp [results, Try.results21, go_sem]) rfl ⟨rfl, ?_⟩
  repeat first | exact Below.refl _ _ | refine Below.setCell ?_ (by simp; try omega) _ | refine Below.alloc ?_ (by simp; try omega) _

/-- The parts of a product. -/
def cre (a b c d : Option Nat) : Option Nat := cop .sub (cop .mul a c) (cop .mul b d)
def cim (a b c d : Option Nat) : Option Nat := cop .add (cop .mul a d) (cop .mul b c)

end Go.Proofs.Ytocdamhpcadfbaa
