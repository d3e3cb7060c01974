/- Whole numbers as floats; a point turned in plain numbers. -/
import Derived.Test.YtlcfcdpgggocnaaV1
import Derived.Test.YtlcfcdpgggocnaaB1
import Derived.Test.YtlcfcdpgggocnaaAW
import Derived.Test.YtlcfcdpgggocnaaPA
namespace Go.Proofs.Ytlcfcdpgggocnaa
open Go.RowKit

abbrev fk (n : Int) : Nat := floatOfInt .f64 n

theorem fk_V (n : Int) : V (fk n) n := by
  refine ⟨decide (n < 0), rfl, ?_⟩
  unfold sg
  by_cases h : n < 0
  · simp [h]; omega
  · simp [h]; omega

/-- A whole float is the whole number. -/
theorem V_int {b : Nat} {x : Int} (h : V b x) (hx : x.natAbs < 9007199254740992) : floatToIntVal .f64 b .i64 = some x := by
  obtain ⟨s, j, hr, hs⟩ := h.read hx
  have hd : (FloatKind.f64.decode b).toInt .zero = some x := by
    show (Ieee.double.read b).toInt .zero = _
    rw [hr]
    simp only [Ieee.Datum.toInt, Ieee.Datum.integral]
    have a1 : (-(j : Int)).toNat = 0 := by omega
    have a2 : (-(-(j : Int))).toNat = j := by omega
    rw [a1, a2, Nat.shiftLeft_eq, Nat.pow_zero, Nat.mul_one]
    have a3 : Ieee.Toward.zero.cut s (x.natAbs * 2 ^ j) j = x.natAbs := by
      unfold Ieee.Toward.cut
      simp only
      by_cases h0 : x.natAbs = 0
      · simp [h0]
      · have l1 : j ≤ (x.natAbs * 2 ^ j).log2 := (Nat.le_log2 (by have := Nat.two_pow_pos j; exact Nat.mul_ne_zero h0 (by omega))).2 (by have := Nat.mul_le_mul_right (2 ^ j) (show 1 ≤ x.natAbs by omega); omega)
        rw [Nat.min_eq_left (by omega), Nat.one_shiftLeft, Nat.mul_div_cancel _ (Nat.two_pow_pos j)]; rfl
    rw [a3]
    congr 1
  unfold floatToIntVal
  rw [hd]
  simp only
  have b0 : IntKind.i64.min = -9223372036854775808 := by decide
  have b1 : IntKind.i64.max = 9223372036854775807 := by decide
  rw [b0, b1, if_pos (by omega)]

theorem run_arith (op : BinOp) (hop : op = .add ∨ op = .sub ∨ op = .mul ∨ op = .quo) (P : Program) (x y : Nat) (w : World) : (Op.Complex.arith op .f64 x y).run P w = .ok (fres op w x y) (fwor op w x y) := by
  have h := run_fop op hop P 0 x y w
  have e : binOp op 0 (.float .f64 x) (.float .f64 y) = Op.floatArith op .f64 x y := by rcases hop with rfl | rfl | rfl | rfl <;> rfl
  rw [e] at h
  simp [Op.Complex.arith, h]

theorem fres_some {op : BinOp} {a b r : Nat} (w : World) (h : floatBits op .f64 a b = some r) : fres op w a b = r ∧ fwor op w a b = w := by
  unfold fres fwor
  rw [h]
  simp

/-- A product of whole complex numbers that are small is exact. -/
theorem cmul_V {a b c d : Nat} {x y u v : Int} (ha : V a x) (hb : V b y) (hc : V c u) (hd : V d v) (hx : x.natAbs ≤ 1000000000) (hy : y.natAbs ≤ 1000000000) (hu : u.natAbs ≤ 2) (hv : v.natAbs ≤ 2) :
    ∃ e f, (∀ t w, (binOp .mul t (.complex .f64 a b) (.complex .f64 c d)).run Try.prog w = .ok (.complex .f64 e f) w) ∧ V e (x * u - y * v) ∧ V f (x * v + y * u) := by
  have bd : ∀ p q : Int, p.natAbs ≤ 1000000000 → q.natAbs ≤ 2 → (p * q).natAbs ≤ 2000000000 := fun p q hp hq => by
    rw [Int.natAbs_mul]
    exact Nat.mul_le_mul hp hq
  obtain ⟨r1, h1, v1⟩ := V_mul ha hc (by omega) (by omega)
  obtain ⟨r2, h2, v2⟩ := V_mul hb hd (by omega) (by omega)
  obtain ⟨r3, h3, v3⟩ := V_mul ha hd (by omega) (by omega)
  obtain ⟨r4, h4, v4⟩ := V_mul hb hc (by omega) (by omega)
  have b1 := bd x u hx hu
  have b2 := bd y v hy hv
  have b3 := bd x v hx hv
  have b4 := bd y u hy hu
  obtain ⟨r5, h5, v5⟩ := V_sub v1 v2 (by omega) (by omega)
  obtain ⟨r6, h6, v6⟩ := V_add v3 v4 (by omega) (by omega)
  refine ⟨r5, r6, fun t w => ?_, v5, v6⟩
  have g1 := fres_some w h1
  have g2 := fres_some w h2
  have g3 := fres_some w h3
  have g4 := fres_some w h4
  have g5 := fres_some w h5
  have g6 := fres_some w h6
  simp [binOp, Op.complexOp, Op.Complex.conv, Op.Complex.product, Op.Complex.mul, Op.Complex.add, Op.Complex.sub, run_arith, g1.1, g1.2, g2.1, g2.2, g3.1, g3.2, g4.1, g4.2, g5.1, g5.2, g6.1, g6.2]

/-- A point turned by q quarters. -/
def tx (q : Nat) (x y : Int) : Int := if q = 0 then x else if q = 1 then -y else if q = 2 then -x else y
def ty (q : Nat) (x y : Int) : Int := if q = 0 then y else if q = 1 then x else if q = 2 then -y else -x
end Go.Proofs.Ytlcfcdpgggocnaa
