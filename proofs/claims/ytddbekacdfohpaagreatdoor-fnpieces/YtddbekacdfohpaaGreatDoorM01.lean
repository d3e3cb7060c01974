/- F1 P1 I1 P2 P3 L1. -/
import Derived.Test.YtddbekacdfohpaaGreatDoorRows
import Derived.WalkKit
import Derived.WalkSpells
import Derived.WalkLawsBesides
import Derived.Deep.QuietTactic
import Derived.BigQuiet
import Derived.RegionTactic
import Derived.Deep.RegionWith
import Derived.Laws.OwnMore
import Derived.Deep.Cut
namespace Go.Proofs.YtddbekacdfohpaaGreatDoor
open Go.RowKit

/-- What bits stand for; all NaNs are one. -/
def cn (b : Nat) : Option Nat := if (Ieee.double.read b).isNaN then none else some b

/-- An operation on what bits stand for. -/
def cop (op : BinOp) (x y : Option Nat) : Option Nat := x.bind fun a => y.bind fun b => floatBits op .f64 a b

theorem word_not_nan (neg : Bool) (k : Nat) (h : k ≤ Ieee.double.infRung) : (Ieee.double.read (Ieee.double.word neg k)).isNaN = false := by
  have e1 : Ieee.double.signWeight = 9223372036854775808 := by decide
  have e2 : Ieee.double.infRung = 9218868437227405312 := by decide
  have e3 : Ieee.double.binade = 4503599627370496 := by decide
  rw [e2] at h
  have hm : Ieee.double.word neg k % 9223372036854775808 = k := by
    unfold Ieee.Format.word
    rw [e1]
    split <;> omega
  unfold Ieee.Format.read
  simp only [e1, e2, e3, hm]
  split
  · rfl
  · split
    · rfl
    · split
      · rfl
      · omega

theorem write_not_nan (d : Ieee.Datum) (h : d.isNaN = false) : (Ieee.double.read (Ieee.double.write d)).isNaN = false := by
  cases d with
  | number s m e =>
    simp only [Ieee.Format.write, Ieee.Format.nearest]
    split
    · exact word_not_nan _ _ (Nat.zero_le _)
    · exact word_not_nan _ _ (Nat.min_le_right _ _)
  | infinity s => exact word_not_nan _ _ (Nat.le_refl _)
  | nan s f => simp [Ieee.Datum.isNaN] at h

theorem sum_not_nan {a b c : Ieee.Datum} (h : a.sum b = some c) : a.isNaN = false ∧ b.isNaN = false ∧ c.isNaN = false := by
  cases a <;> cases b <;> simp only [Ieee.Datum.sum] at h <;> first | (cases h; done) | skip
  all_goals first
    | (cases h; exact ⟨rfl, rfl, rfl⟩)
    | (split at h <;> first | (cases h; exact ⟨rfl, rfl, rfl⟩) | cases h)

theorem product_not_nan {a b c : Ieee.Datum} (h : a.product b = some c) : a.isNaN = false ∧ b.isNaN = false ∧ c.isNaN = false := by
  cases a <;> cases b <;> simp only [Ieee.Datum.product] at h <;> first | (cases h; done) | skip
  all_goals first
    | (cases h; exact ⟨rfl, rfl, rfl⟩)
    | (split at h <;> first | (cases h; exact ⟨rfl, rfl, rfl⟩) | cases h)

theorem quotient_not_nan {n : Nat} {a b c : Ieee.Datum} (h : a.quotient n b = some c) : a.isNaN = false ∧ b.isNaN = false ∧ c.isNaN = false := by
  cases a <;> cases b <;> simp only [Ieee.Datum.quotient] at h <;> first | (cases h; done) | skip
  all_goals first
    | (cases h; exact ⟨rfl, rfl, rfl⟩)
    | (split at h <;> first | (cases h; exact ⟨rfl, rfl, rfl⟩) | (split at h <;> first | (cases h; exact ⟨rfl, rfl, rfl⟩) | cases h))

theorem opposite_nan (a : Ieee.Datum) : a.opposite.isNaN = a.isNaN := by cases a <;> rfl

theorem map_some {α β : Type} {o : Option α} {f : α → β} {r : β} (h : o.map f = some r) : ∃ d, o = some d ∧ f d = r := by
  cases o with
  | none => cases h
  | some d => exact ⟨d, rfl, by simpa using h⟩

/-- A valid operation: no operand is a NaN, nor what it gives. -/
theorem bits_not_nan {op : BinOp} {x y r : Nat} (h : floatBits op .f64 x y = some r) : (Ieee.double.read x).isNaN = false ∧ (Ieee.double.read y).isNaN = false ∧ (Ieee.double.read r).isNaN = false := by
  unfold floatBits at h
  split at h
  · obtain ⟨d, hd, rfl⟩ := map_some h
    obtain ⟨h1, h2, h3⟩ := sum_not_nan hd
    exact ⟨h1, h2, write_not_nan _ h3⟩
  · obtain ⟨d, hd, rfl⟩ := map_some h
    obtain ⟨h1, h2, h3⟩ := sum_not_nan hd
    rw [opposite_nan] at h2
    exact ⟨h1, h2, write_not_nan _ h3⟩
  · obtain ⟨d, hd, rfl⟩ := map_some h
    obtain ⟨h1, h2, h3⟩ := product_not_nan hd
    exact ⟨h1, h2, write_not_nan _ h3⟩
  · obtain ⟨d, hd, rfl⟩ := map_some h
    obtain ⟨h1, h2, h3⟩ := quotient_not_nan hd
    exact ⟨h1, h2, write_not_nan _ h3⟩
  · cases h

theorem cn_some {x : Nat} (h : (Ieee.double.read x).isNaN = false) : cn x = some x := by simp [cn, h]

theorem cn_none {x : Nat} (h : (Ieee.double.read x).isNaN = true) : cn x = none := by simp [cn, h]

/-- What a float operation gives in a world (a NaN is drawn), and the world behind it. -/
def fres (op : BinOp) (w : World) (x y : Nat) : Nat := (floatBits op .f64 x y).getD ((Question.nanBits .f64 x y).cut (w.tape w.drawn (.nanBits .f64 x y)))
def fwor (op : BinOp) (w : World) (x y : Nat) : World := if (floatBits op .f64 x y).isSome then w else w.drew

theorem run_fop (op : BinOp) (hop : op = .add ∨ op = .sub ∨ op = .mul ∨ op = .quo) (P : Program) (t : TypeId) (x y : Nat) (w : World) :
    (binOp op t (.float .f64 x) (.float .f64 y)).run P w = .ok (.float .f64 (fres op w x y)) (fwor op w x y) := by
  unfold fres fwor
  cases h : floatBits op .f64 x y with
  | some r => rw [run_float_arith w op t .f64 x y r h]; simp
  | none =>
    unfold floatBits at h
    rcases hop with rfl | rfl | rfl | rfl <;> simp only at h <;> simp [binOp, Op.floatArith, h, Question.forced]

theorem fwor_cell (op : BinOp) (w : World) (x y : Nat) (a : Addr) : (fwor op w x y).cell? a = w.cell? a := by
  unfold fwor; split <;> rfl

theorem fwor_frozen (op : BinOp) (w : World) (x y : Nat) (a : Addr) : (fwor op w x y).frozen? a = w.frozen? a := by
  unfold fwor; split <;> rfl

theorem fwor_heap (op : BinOp) (w : World) (x y : Nat) : (fwor op w x y).heap = w.heap := by
  unfold fwor; split <;> rfl

theorem below_fwor {B : Nat} {w0 w : World} (h : Below B w0 w) (op : BinOp) (x y : Nat) : Below B w0 (fwor op w x y) := by
  unfold fwor; split
  · exact h
  · exact h.drew

theorem cut_nan (x y t : Nat) : (Ieee.double.read ((Question.nanBits .f64 x y).cut t)).isNaN = true := by
  have e1 : Ieee.double.signWeight = 9223372036854775808 := by decide
  have e2 : Ieee.double.infRung = 9218868437227405312 := by decide
  have e3 : Ieee.double.binade = 4503599627370496 := by decide
  have e : (Question.nanBits .f64 x y).cut t = (t % 2) * 9223372036854775808 + 9218868437227405312 + 1 + (t / 2) % 4503599627370495 := rfl
  have h1 : (t / 2) % 4503599627370495 < 4503599627370495 := Nat.mod_lt _ (by decide)
  have h2 : t % 2 < 2 := Nat.mod_lt _ (by decide)
  rw [e]
  generalize (t / 2) % 4503599627370495 = k at *
  generalize t % 2 = s at *
  unfold Ieee.Format.read
  simp only [e1, e2, e3]
  rw [if_neg (by omega), if_neg (by omega), if_neg (by omega)]
  rfl

/-- An operation's answer, all NaNs being one, is told by what its operands stand for. -/
theorem cn_fres (op : BinOp) (w : World) (x y : Nat) : cn (fres op w x y) = cop op (cn x) (cn y) := by
  unfold fres
  cases h : floatBits op .f64 x y with
  | some r =>
    obtain ⟨h1, h2, h3⟩ := bits_not_nan h
    rw [cn_some h1, cn_some h2]
    simp only [Option.getD_some, cop, Option.bind_some, h]
    exact cn_some h3
  | none =>
    simp only [Option.getD_none]
    rw [cn_none (cut_nan _ _ _)]
    cases hx : (Ieee.double.read x).isNaN with
    | true => simp [cn_none hx, cop]
    | false =>
      cases hy : (Ieee.double.read y).isNaN with
      | true => simp [cn_none hy, cop]
      | false => rw [cn_some hx, cn_some hy]; simp [cop, h]

theorem order_nan {x : Nat} (h : (Ieee.double.read x).isNaN = true) : FloatKind.f64.format.order x x = none := by
  show (Ieee.double.read x).order (Ieee.double.read x) = none
  cases hx : Ieee.double.read x <;> rw [hx] at h <;> first | (simp [Ieee.Datum.isNaN] at h; done) | rfl

theorem order_same {x : Nat} (h : (Ieee.double.read x).isNaN = false) : FloatKind.f64.format.order x x = some .eq := by
  show (Ieee.double.read x).order (Ieee.double.read x) = some .eq
  cases hx : Ieee.double.read x with
  | nan s f => rw [hx] at h; simp [Ieee.Datum.isNaN] at h
  | infinity s => simp [Ieee.Datum.order]
  | number s m e => simp [Ieee.Datum.order]

theorem quo_one {x : Nat} (h : (Ieee.double.read x).isNaN = false) : ∃ r, floatBits .quo .f64 4607182418800017408 x = some r := by
  have e : Ieee.double.read 4607182418800017408 = .number false 4503599627370496 (-52) := by decide +kernel
  show ∃ r, ((Ieee.double.read 4607182418800017408).quotient _ (Ieee.double.read x)).map _ = some r
  rw [e]
  cases hx : Ieee.double.read x with
  | nan s f => rw [hx] at h; simp [Ieee.Datum.isNaN] at h
  | infinity s => exact ⟨_, rfl⟩
  | number s m e =>
    simp only [Ieee.Datum.quotient]
    by_cases hm : m = 0
    · simp [hm]
    · simp [hm]

end Go.Proofs.YtddbekacdfohpaaGreatDoor

namespace Go.Proofs.YtddbekacdfohpaaGreatDoor
open Go.RowKit

theorem rAdd (t : TypeId) (x y : Nat) (w : World) : (binOp .add t (.float .f64 x) (.float .f64 y)).run Tryz.prog w = .ok (.float .f64 (fres .add w x y)) (fwor .add w x y) := run_fop .add (by simp) _ t x y w
theorem rSub (t : TypeId) (x y : Nat) (w : World) : (binOp .sub t (.float .f64 x) (.float .f64 y)).run Tryz.prog w = .ok (.float .f64 (fres .sub w x y)) (fwor .sub w x y) := run_fop .sub (by simp) _ t x y w
theorem rMul (t : TypeId) (x y : Nat) (w : World) : (binOp .mul t (.float .f64 x) (.float .f64 y)).run Tryz.prog w = .ok (.float .f64 (fres .mul w x y)) (fwor .mul w x y) := run_fop .mul (by simp) _ t x y w
theorem rQuo (t : TypeId) (x y : Nat) (w : World) : (binOp .quo t (.float .f64 x) (.float .f64 y)).run Tryz.prog w = .ok (.float .f64 (fres .quo w x y)) (fwor .quo w x y) := run_fop .quo (by simp) _ t x y w

theorem run_arith (op : BinOp) (hop : op = .add ∨ op = .sub ∨ op = .mul ∨ op = .quo) (P : Program) (x y : Nat) (w : World) : (Op.Complex.arith op .f64 x y).run P w = .ok (fres op w x y) (fwor op w x y) := by
  have h := run_fop op hop P 0 x y w
  have e : binOp op 0 (.float .f64 x) (.float .f64 y) = Op.floatArith op .f64 x y := by rcases hop with rfl | rfl | rfl | rfl <;> rfl
  rw [e] at h
  simp [Op.Complex.arith, h]

theorem rcAdd (t : TypeId) (a b c d : Nat) (w : World) : (binOp .add t (.complex .f64 a b) (.complex .f64 c d)).run Tryz.prog w = .ok (.complex .f64 (fres .add w a c) (fres .add (fwor .add w a c) b d)) (fwor .add (fwor .add w a c) b d) := by
  simp [binOp, Op.complexOp, run_arith]

theorem rcSub (t : TypeId) (a b c d : Nat) (w : World) : (binOp .sub t (.complex .f64 a b) (.complex .f64 c d)).run Tryz.prog w = .ok (.complex .f64 (fres .sub w a c) (fres .sub (fwor .sub w a c) b d)) (fwor .sub (fwor .sub w a c) b d) := by
  simp [binOp, Op.complexOp, run_arith]

/-- A pair as a value. -/
abbrev Pv (a b : Nat) : Value := .agg #[.float .f64 a, .float .f64 b]

theorem bstep {w w1 w2 : World} (h1 : Below w.heap.size w w1) (h2 : Below w1.heap.size w1 w2) : Below w.heap.size w w2 := h1.trans (h2.mono h1.size)

theorem below_one (w : World) (o : Obj) : Below w.heap.size w (w.alloc o) := (Below.refl _ _).alloc (Nat.le_refl _) _

theorem rStore (a : Addr) (x : Nat) (m : Mode) (w : World) : (store a (.float .f64 x) m).run Tryz.prog w = stored Tryz.prog w a (.float .f64 x) m := run_store Tryz.prog w a _ m rfl

theorem keepc {W w1 : World} (hb : Below W.heap.size W w1) {a : Addr} {v : Value} (h : W.cell? a = some v) : w1.cell? a = some v := (hb.cell (World.block_lt_of_cell? W _ h)).trans h
theorem keepf {W w1 : World} (hb : Below W.heap.size W w1) {a : Addr} {v : Value} (h : W.cell? a = some v) (hf : W.frozen? a = false) : w1.frozen? a = false := (hb.frozen (World.block_lt_of_cell? W _ h)).trans hf

set_option maxHeartbeats 1000000 in
theorem toC_any (a b : Nat) (w : World) : Calls Tryz.prog 43 #[Pv a b] w fun e w' => e = .returned (.complex .f64 a b) ∧ Below w.heap.size w w' := by
  go_enter Tryz.func43, Tryz.ntmps43
  go_wp2
  go_ret
  exact ⟨rfl, below_one _ _⟩

set_option maxHeartbeats 1000000 in
theorem toP_any (a b : Nat) (w : World) : Calls Tryz.prog 40 #[.complex .f64 a b] w fun e w' => e = .returned (Pv a b) ∧ Below w.heap.size w w' := by
  have hST := rStore
  go_enter Tryz.func40, Tryz.ntmps40
  go_wp2
  refine bodyPost_ret (v := Pv a b) (by simp [results, Tryz.results40, go_sem]) rfl ⟨rfl, ?_⟩
  repeat first | exact Below.refl _ _ | refine Below.setCell ?_ (by simp; try omega) _ | refine Below.alloc ?_ (by simp; try omega) _

set_option maxHeartbeats 1000000 in
theorem sAdd_any (a b c d : Nat) (w : World) : Calls Tryz.prog 62 #[Pv a b, Pv c d] w fun e w' => ∃ x y, e = .returned (Pv x y) ∧ cn x = cop .add (cn a) (cn c) ∧ cn y = cop .add (cn b) (cn d) ∧ Below w.heap.size w w' := by
  have hA := rAdd
  have hfc := fwor_cell
  have hff := fwor_frozen
  have hST := rStore
  go_enter Tryz.func62, Tryz.ntmps62
  go_wp2
  refine bodyPost_ret (v := Pv _ _) (by simp [results, Tryz.results62, fwor_cell, go_sem]; exact ⟨rfl, rfl⟩) rfl ⟨_, _, rfl, cn_fres _ _ _ _, cn_fres _ _ _ _, ?_⟩
  repeat first | exact Below.refl _ _ | apply below_fwor | refine Below.setCell ?_ (by simp; try omega) _ | refine Below.alloc ?_ (by simp; try omega) _

set_option maxHeartbeats 1000000 in
theorem sSub_any (a b c d : Nat) (w : World) : Calls Tryz.prog 63 #[Pv a b, Pv c d] w fun e w' => ∃ x y, e = .returned (Pv x y) ∧ cn x = cop .sub (cn a) (cn c) ∧ cn y = cop .sub (cn b) (cn d) ∧ Below w.heap.size w w' := by
  have hA := rSub
  have hfc := fwor_cell
  have hff := fwor_frozen
  have hST := rStore
  go_enter Tryz.func63, Tryz.ntmps63
  go_wp2
  refine bodyPost_ret (v := Pv _ _) (by simp [results, Tryz.results63, fwor_cell, go_sem]; exact ⟨rfl, rfl⟩) rfl ⟨_, _, rfl, cn_fres _ _ _ _, cn_fres _ _ _ _, ?_⟩
  repeat first | exact Below.refl _ _ | apply below_fwor | refine Below.setCell ?_ (by simp; try omega) _ | refine Below.alloc ?_ (by simp; try omega) _

/-- The parts of a product. -/
def cre (a b c d : Option Nat) : Option Nat := cop .sub (cop .mul a c) (cop .mul b d)
def cim (a b c d : Option Nat) : Option Nat := cop .add (cop .mul a d) (cop .mul b c)

set_option maxHeartbeats 1000000 in
theorem sMul_any (a b c d : Nat) (w : World) : Calls Tryz.prog 60 #[Pv a b, Pv c d] w fun e w' => ∃ x y, e = .returned (Pv x y) ∧ cn x = cre (cn a) (cn b) (cn c) (cn d) ∧ cn y = cim (cn a) (cn b) (cn c) (cn d) ∧ Below w.heap.size w w' := by
  have hA := rAdd
  have hS := rSub
  have hM := rMul
  have hfc := fwor_cell
  have hff := fwor_frozen
  have hST := rStore
  go_enter Tryz.func60, Tryz.ntmps60
  go_wp2
  refine bodyPost_ret (v := Pv _ _) (by simp [results, Tryz.results60, fwor_cell, go_sem]; exact ⟨rfl, rfl⟩) rfl ⟨_, _, rfl, ?_, ?_, ?_⟩
  · simp only [cn_fres, cre]
  · simp only [cn_fres, cim]
  repeat first | exact Below.refl _ _ | apply below_fwor | refine Below.setCell ?_ (by simp; try omega) _ | refine Below.alloc ?_ (by simp; try omega) _

set_option maxHeartbeats 1000000 in
theorem times_any (a b c d : Nat) (w : World) : Calls Tryz.prog 42 #[.complex .f64 a b, .complex .f64 c d] w fun e w' => ∃ x y, e = .returned (.complex .f64 x y) ∧ cn x = cre (cn a) (cn b) (cn c) (cn d) ∧ cn y = cim (cn a) (cn b) (cn c) (cn d) ∧ Below w.heap.size w w' := by
  have hA := rAdd
  have hS := rSub
  have hM := rMul
  go_enter Tryz.func42, Tryz.ntmps42
  go_wp2
  go_ret
  refine ⟨_, _, rfl, ?_, ?_, ?_⟩
  · simp only [cn_fres, cre]
  · simp only [cn_fres, cim]
  repeat first | exact Below.refl _ _ | apply below_fwor

end Go.Proofs.YtddbekacdfohpaaGreatDoor

namespace Go.Proofs.YtddbekacdfohpaaGreatDoor
open Go

section
variable {P : Program} {ops : Array Oper} {Q : Exit → Act → World → Prop} {md : Region.Mode} {I : World → Prop}

/-- Every order of the region ends well, and each world on the way keeps I. -/
def wpI (P : Program) (md : Region.Mode) (ops : Array Oper) (Q : Exit → Act → World → Prop) (I : World → Prop) : Nat → Array Bool → Act → World → Prop
  | 0, listed, a, w => I w ∧ Region.ready md ops listed = [] ∧ Q .normal a w
  | fuel + 1, listed, a, w => I w ∧ (Region.ready md ops listed = [] → Q .normal a w) ∧ ∀ i ∈ Region.ready md ops listed, wpOp P ops Q i (wpI P md ops Q I fuel (listed.setIfInBounds i true)) a w

theorem wpI_any : ∀ (fuel : Nat) (listed : Array Bool) (a : Act) (w : World), wpI P md ops Q I fuel listed a w → wpAny P md ops Q fuel listed a w
  | 0, _, _, _, h => h.2
  | fuel + 1, _, _, _, h => ⟨h.2.1, fun i hi => wpOp_mono (fun a w h => wpI_any fuel _ a w h) (h.2.2 i hi)⟩

/-- What an operation yields in every world that keeps I. -/
def YI (P : Program) (ops : Array Oper) (I : World → Prop) (o : Oper) (v : Value) (a : Act) : Prop :=
  Region.wanted o (yielded ops a.tmps) = true ∧ ∀ w, I w → (execOp a.eval o).run P w = .ok (.value v) w

theorem YI.wpOp {i : Nat} {o : Oper} {v : Value} {a : Act} (hi : ops[i]? = some o) (hy : YI P ops I o v a) {K : Act → World → Prop} {w : World} (hI : I w) (h : K (a.put o.dst v) w) : wpOp P ops Q i K a w := by
  unfold Go.wpOp
  simp only [hi]
  simp only [hy.1, if_true, Oper.wp, hy.2 w hI, Oper.upon]
  exact .inl h

theorem YI.of_same {o : Oper} {v : Value} {a a' : Act} (hy : YI P ops I o v a) (he : execOp a'.eval o = execOp a.eval o) (hw : Region.wanted o (yielded ops a'.tmps) = Region.wanted o (yielded ops a.tmps)) : YI P ops I o v a' := by
  unfold YI at *
  rw [he, hw]
  exact hy

theorem wpOp_putI {j : Nat} {oi oj : Oper} {v : Value} (hj : ops[j]? = some oj) (hap : oi.apart ops oj = true) (hsi : ∀ cs b, oi.op ≠ .select cs b) (hsj : ∀ cs b, oj.op ≠ .select cs b)
    (hQ : ∀ c a w, Q (.panic c) (a.put oi.dst v) w → Q (.panic c) a w) {K : Act → World → Prop} {a : Act} {w : World} (hy : YI P ops I oi v a) (h : wpOp P ops Q j K (a.put oi.dst v) w) :
    wpOp P ops Q j (fun a' w' => YI P ops I oi v a' ∧ K (a'.put oi.dst v) w') a w := by
  obtain ⟨h1, h2, h3⟩ := Oper.apart_spec hap
  have keep : ∀ (a : Act), YI P ops I oi v a → ∀ u, YI P ops I oi v (a.put oj.dst u) := fun a hy u => hy.of_same (execOp_put oi hsi a oj.dst u h3) (wanted_put oi a oj.dst u h3)
  have keepD : ∀ d, YI P ops I oi v { a with defers := d :: a.defers } := fun d => hy.of_same rfl rfl
  unfold wpOp at *
  simp only [hj] at *
  rw [wanted_put oj a oi.dst v h1] at h
  split
  · rename_i hw
    simp only [hw, if_true] at h
    rcases h with h | ⟨hasks, hlets⟩
    case inr => exact .inr ⟨by unfold Oper.asks at *; rw [execOp_put oj hsj a oi.dst v h1] at hasks; exact hasks, hlets⟩
    refine .inl ?_
    unfold Oper.wp at *
    rw [execOp_put oj hsj a oi.dst v h1] at h
    generalize (execOp a.eval oj).run P w = r at *
    cases r with
    | ok n w' =>
      cases n <;> simp only [Oper.upon] at h ⊢
      case value u => exact ⟨keep a hy u, by rw [← Act.put_comm a v u h2]; exact h⟩
      case skip => exact ⟨keep a hy _, by rw [← Act.put_comm a v undef h2]; exact h⟩
      case defer d =>
        refine ⟨keep _ (keepD d) _, ?_⟩
        rw [← Act.put_comm _ v undef h2, ← Act.put_defers]
        exact h
      case enter f args =>
        refine Calls.mono h fun e w'' he => ?_
        cases e with
        | returned u => exact ⟨keep a hy u, by rw [← Act.put_comm a v u h2]; exact he⟩
        | panicked c => exact hQ _ _ _ he
        | outgrown => exact he
      case row row args => exact Rows.mono h fun u w'' he => ⟨keep a hy u, by rw [← Act.put_comm a v u h2]; exact he⟩
    | halt x w' =>
      cases x <;> simp only [Oper.upon] at h ⊢
      case panic u => exact hQ _ _ _ h
  · rename_i hw
    simp only [hw] at h
    exact ⟨keep a hy _, by rw [← Act.put_comm a v undef h2]; exact h⟩

theorem wpI.keeps {fuel : Nat} {listed : Array Bool} {a : Act} {w : World} (h : wpI P md ops Q I fuel listed a w) : I w := by
  cases fuel <;> exact h.1

theorem wpI_first {i : Nat} {oi : Oper} {v : Value} (hi : ops[i]? = some oi) (hsel : ∀ (j : Nat) (o : Oper) cs b, ops[j]? = some o → o.op ≠ .select cs b)
    (hQ : ∀ c a w, Q (.panic c) (a.put oi.dst v) w → Q (.panic c) a w) :
    ∀ (fuel : Nat) (listed : Array Bool) (a : Act) (w : World),
      (∀ j oj, ops[j]? = some oj → j ≠ i → listed.getD j true = false → (∀ e ∈ oj.after, Region.binds md e = true → e.on ≠ i) → oi.apart ops oj = true) →
      i ∈ Region.ready md ops listed → YI P ops I oi v a →
      wpI P md ops Q I fuel (listed.setIfInBounds i true) (a.put oi.dst v) w → wpI P md ops Q I (fuel + 1) listed a w := by
  intro fuel
  induction fuel with
  | zero =>
    intro listed a w _ hr hy H
    refine ⟨H.1, fun h => (by rw [h] at hr; cases hr), fun j hj => ?_⟩
    by_cases hji : j = i
    · subst hji; exact hy.wpOp hi H.1 H
    · have := ready_mono hj hji
      rw [H.2.1] at this
      cases this
  | succ fuel ih =>
    intro listed a w hfree hr hy H
    refine ⟨H.1, fun h => (by rw [h] at hr; cases hr), fun j hj => ?_⟩
    by_cases hji : j = i
    · subst hji; exact hy.wpOp hi H.1 H
    · have h1 := H.2.2 j (ready_mono hj hji)
      obtain ⟨hjun, oj, hoj, hall⟩ := mem_ready.1 hj
      have hnot : ∀ e ∈ oj.after, Region.binds md e = true → e.on ≠ i := fun e he hb heq => by
        have h1 := hall e he hb
        have h0 := (mem_ready.1 hr).1
        rw [heq] at h1
        rcases Nat.lt_or_ge i listed.size with h' | h'
        · simp [h'] at h0 h1; rw [h0] at h1; cases h1
        · simp [Array.getElem?_eq_none h'] at h1
      have h2 := wpOp_putI hoj (hfree j oj hoj hji hjun hnot) (fun cs b => hsel i oi cs b hi) (fun cs b => hsel j oj cs b hoj) hQ hy h1
      have hfree' : ∀ k ok, ops[k]? = some ok → k ≠ i → (listed.setIfInBounds j true).getD k true = false →
          (∀ e ∈ ok.after, Region.binds md e = true → e.on ≠ i) → oi.apart ops ok = true := fun k ok hk hki hun hno => by
        refine hfree k ok hk hki ?_ hno
        by_cases hjk : j = k
        · subst hjk; exact hjun
        · rw [getD_set_ne true hjk] at hun; exact hun
      refine wpOp_mono (fun a' w' h3 => ih (listed.setIfInBounds j true) a' w' hfree' (ready_mono hr (Ne.symm hji)) h3.1 ?_) h2
      rw [Array.setIfInBounds_comm _ _ hji]
      exact h3.2

/-- Take operation i first. -/
theorem wpI_take {i : Nat} {oi : Oper} {v : Value} {fuel : Nat} {listed : Array Bool} {a : Act} {w : World} (hi : ops[i]? = some oi)
    (hs : Region.noSelect ops = true) (hf : Region.free md ops listed i = true) (hr : (Region.ready md ops listed).contains i = true)
    (hQ : ∀ c a w, Q (.panic c) (a.put oi.dst v) w → Q (.panic c) a w) (hy : YI P ops I oi v a)
    (h : wpI P md ops Q I fuel (listed.setIfInBounds i true) (a.put oi.dst v) w) : wpI P md ops Q I (fuel + 1) listed a w :=
  wpI_first hi (Region.noSelect_spec hs) hQ fuel listed a w (Region.free_spec hi hf) (by simpa using hr) hy h

/-- The one operation that may come up. -/
theorem wpI_only {i : Nat} {o : Oper} {fuel : Nat} {listed : Array Bool} {a : Act} {w : World} (ho : ops[i]? = some o) (hr : Region.ready md ops listed = [i]) (hI : I w)
    (hw : Region.wanted o (yielded ops a.tmps) = true) (h : ∀ K : Act → World → Prop, (∀ a w, wpI P md ops Q I fuel (listed.setIfInBounds i true) a w → K a w) → Oper.wp P o a w K Q) : wpI P md ops Q I (fuel + 1) listed a w := by
  refine ⟨hI, fun e => (by rw [hr] at e; cases e), fun j hj => ?_⟩
  rw [hr] at hj
  obtain rfl : j = i := by simpa using hj
  unfold wpOp
  simp only [ho, hw, if_true]
  exact .inl (h _ fun _ _ h => h)

/-- Two operations may come up: each of them. -/
theorem wpI_two {i j : Nat} {o o2 : Oper} {fuel : Nat} {listed : Array Bool} {a : Act} {w : World} (ho : ops[i]? = some o) (ho2 : ops[j]? = some o2) (hr : Region.ready md ops listed = [i, j]) (hI : I w)
    (hw : Region.wanted o (yielded ops a.tmps) = true) (hw2 : Region.wanted o2 (yielded ops a.tmps) = true)
    (h : ∀ K : Act → World → Prop, (∀ a w, wpI P md ops Q I fuel (listed.setIfInBounds i true) a w → K a w) → Oper.wp P o a w K Q)
    (h2 : ∀ K : Act → World → Prop, (∀ a w, wpI P md ops Q I fuel (listed.setIfInBounds j true) a w → K a w) → Oper.wp P o2 a w K Q) : wpI P md ops Q I (fuel + 1) listed a w := by
  refine ⟨hI, fun e => (by rw [hr] at e; cases e), fun k hk => ?_⟩
  rw [hr] at hk
  have hk' : k = i ∨ k = j := by simpa using hk
  rcases hk' with rfl | rfl
  · unfold wpOp
    simp only [ho, hw, if_true]
    exact .inl (h _ fun _ _ h => h)
  · unfold wpOp
    simp only [ho2, hw2, if_true]
    exact .inl (h2 _ fun _ _ h => h)

theorem wpI_done {listed : Array Bool} {a : Act} {w : World} (hI : I w) (hr : Region.ready md ops listed = []) (h : Q .normal a w) : ∀ fuel, wpI P md ops Q I fuel listed a w
  | 0 => ⟨hI, hr, h⟩
  | _ + 1 => ⟨hI, fun _ => h, fun i hi => by rw [hr] at hi; cases hi⟩
end
end Go.Proofs.YtddbekacdfohpaaGreatDoor

namespace Go.Proofs.YtddbekacdfohpaaGreatDoor
open Go.RowKit

/-- A pair lies in a block of its own. -/
structure Rb (W : World) (g x y : Nat) : Prop where
  c0 : W.cell? ⟨g, 0, none⟩ = some (.float .f64 x)
  c1 : W.cell? ⟨g, 1, none⟩ = some (.float .f64 y)
  z0 : W.frozen? ⟨g, 0, none⟩ = false
  z1 : W.frozen? ⟨g, 1, none⟩ = false

theorem Rb.lt {W : World} {g x y : Nat} (h : Rb W g x y) : g < W.heap.size := World.block_lt_of_cell? W _ h.c0

theorem Rb.below {W W' : World} {g x y B : Nat} (h : Rb W g x y) (hb : Below B W W') (hg : g < B) : Rb W' g x y :=
  ⟨(hb.cell hg).trans h.c0, (hb.cell hg).trans h.c1, (hb.frozen hg).trans h.z0, (hb.frozen hg).trans h.z1⟩

theorem Rb.call {W W' : World} {g x y : Nat} (h : Rb W g x y) (hb : Below W.heap.size W W') : Rb W' g x y := h.below hb h.lt

theorem Rb.fwor {W : World} {g x y : Nat} (h : Rb W g x y) (op : BinOp) (a b : Nat) : Rb (fwor op W a b) g x y := h.call (below_fwor (Below.refl _ _) _ _ _)

theorem Rb.drew {W : World} {g x y : Nat} (h : Rb W g x y) : Rb W.drew g x y := h.call (Below.refl _ _).drew

theorem Rb.alloc {W : World} {g x y : Nat} (h : Rb W g x y) (o : Obj) : Rb (W.alloc o) g x y := h.call (below_one _ _)

theorem Rb.new (w : World) (x y : Nat) (t : TypeId) {g : Nat} (hg : w.heap.size = g) : Rb (w.alloc (.cells #[.float .f64 x, .float .f64 y] t)) g x y := by
  subst hg
  exact ⟨by simp, by simp, by simp, by simp⟩

theorem Rb.put {W : World} {g x y : Nat} (h : Rb W g x y) (x' y' : Nat) : Rb ((W.setCell ⟨g, 0, none⟩ (.float .f64 x')).setCell ⟨g, 1, none⟩ (.float .f64 y')) g x' y' := by
  obtain ⟨c0, c1, z0, z1⟩ := h
  exact ⟨by simp [go_sem, c0], by simp [go_sem, c1], by simp [go_sem, z0], by simp [go_sem, z1]⟩

theorem Rb.other {W : World} {g x y : Nat} (h : Rb W g x y) {p : Addr} (hp : p.block ≠ g) (v : Value) : Rb (W.setCell p v) g x y := by
  have e : (W.setCell p v).heap[g]? = W.heap[g]? := Below.heap_setCell _ _ _ _ (Ne.symm hp)
  exact ⟨(World.cell?_of_block (w := W) e).trans h.c0, (World.cell?_of_block (w := W) e).trans h.c1, (World.frozen?_of_block (w := W) e).trans h.z0, (World.frozen?_of_block (w := W) e).trans h.z1⟩

theorem bgo {B : Nat} {w w1 w2 : World} (h1 : Below B w w1) (hB : B ≤ w.heap.size) (h2 : Below w1.heap.size w1 w2) : Below B w w2 := h1.trans (h2.mono (Nat.le_trans hB h1.size))

end Go.Proofs.YtddbekacdfohpaaGreatDoor

namespace Go.Proofs.YtddbekacdfohpaaGreatDoor
open Go.RowKit

/-- The sign turned. -/
abbrev ng (b : Nat) : Nat := Op.negFloat .f64 b
theorem rNeg (b : Nat) (w : World) : (Op.unary .neg (.float .f64 b)).run Tryz.prog w = .ok (.float .f64 (ng b)) w := rfl

/-- The power of a pair. -/
def cpw (a b : Option Nat) : Option Nat := cop .add (cop .mul a a) (cop .mul b b)

end Go.Proofs.YtddbekacdfohpaaGreatDoor

namespace Go.Proofs.YtddbekacdfohpaaGreatDoor
open Go.RowKit

/-- The slice holds the n pairs (xs, ys). -/
def Fp (w : World) (v : Value) (n : Nat) (xs ys : Nat → Nat) : Prop := ∃ ao cap, v = .slice ao n cap ∧ n ≤ cap ∧ (0 < n → ∃ b off, ao = some ⟨b, off, none⟩ ∧ b < w.heap.size ∧ ∀ k, k < n → w.cell? ⟨b, off + k * 2, none⟩ = some (.float .f64 (xs k)) ∧ w.cell? ⟨b, off + k * 2 + 1, none⟩ = some (.float .f64 (ys k)))

theorem Fp.below {w w' : World} {v : Value} {n : Nat} {xs ys : Nat → Nat} (h : Fp w v n xs ys) (hb : Below w.heap.size w w') : Fp w' v n xs ys := by
  obtain ⟨ao, cap, rfl, hcap, hc⟩ := h
  refine ⟨ao, cap, rfl, hcap, fun h0 => ?_⟩
  obtain ⟨b, off, rfl, hlt, hcell⟩ := hc h0
  exact ⟨b, off, rfl, Nat.lt_of_lt_of_le hlt hb.size, fun k hk => ⟨(hb.cell (p := ⟨b, off + k * 2, none⟩) hlt).trans (hcell k hk).1, (hb.cell (p := ⟨b, off + k * 2 + 1, none⟩) hlt).trans (hcell k hk).2⟩⟩

/-- A row of cells that the call made, by a function. -/
def Ow (W : World) (B g n cap : Nat) (f : Nat → Value) : Prop := W.ownsRow B 39 2 (.slice (some ⟨g, 0, none⟩) n cap) n ((List.range (n * 2)).map f)

theorem list_fun (L : List Value) : L = (List.range L.length).map (fun i => L.getD i (.bool false)) := by
  apply List.ext_getElem
  · simp
  · intro i h1 h2
    simp [h1]

theorem set_fun (m j : Nat) (f : Nat → Value) (u : Value) : ((List.range m).map f).set j u = (List.range m).map (fun i => if i = j then u else f i) := by
  apply List.ext_getElem
  · simp
  · intro i h1 h2
    simp only [List.getElem_set, List.getElem_map, List.getElem_range]
    by_cases h : j = i
    · subst h; simp
    · simp [h, Ne.symm h]

theorem Ow.cell {W : World} {B g n cap : Nat} {f : Nat → Value} (h : Ow W B g n cap f) {j : Nat} (hj : j < n * 2) : W.cell? ⟨g, j, none⟩ = some (f j) := by
  rw [World.ownsRow.cellAt h j hj]
  simp [hj]

theorem Ow.put {W : World} {B g n cap : Nat} {f : Nat → Value} (h : Ow W B g n cap f) (j : Nat) (u : Value) : Ow (W.setCell ⟨g, j, none⟩ u) B g n cap (fun i => if i = j then u else f i) := by
  have := (World.ownsRow.stored h j u).1
  rw [set_fun] at this
  exact this

theorem Ow.below {W W' : World} {B g n cap : Nat} {f : Nat → Value} (h : Ow W B g n cap f) (hb : Below W.heap.size W W') : Ow W' B g n cap f := by
  refine ⟨h.1, ?_⟩
  rcases h.2 with ⟨h', _⟩ | ⟨g', cap', cur, h', hb', hg, rest⟩
  · simp at h'
  · exact .inr ⟨g', cap', cur, h', hb', (hb.block g' (Array.getElem?_eq_some_iff.1 hg).1).trans hg, rest⟩

theorem Tryz.info39 : (Tryz.prog.info? 39).map (fun i => (i.zero, i.size, i.bytes)) = some (some (.agg #[.float .f64 0, .float .f64 0]), 2, 16) := by kernel_rfl

theorem info_parts {o : Option TypeInfo} {z : Value} {s b : Nat} (h : o.map (fun i => (i.zero, i.size, i.bytes)) = some (some z, s, b)) : ∃ i, o = some i ∧ i.zero = some z ∧ i.size = s ∧ i.bytes = b := by
  cases o with
  | none => cases h
  | some i =>
    simp only [Option.map_some, Option.some.injEq, Prod.mk.injEq] at h
    exact ⟨i, rfl, h.1, h.2.1, h.2.2⟩

end Go.Proofs.YtddbekacdfohpaaGreatDoor
