/- The lesser and the greater of two floats. -/
import Derived.Test.YtogamhaafcoemaaQ1
import Derived.Test.YtogamhaafcoemaaF1
namespace Go.Proofs.Ytogamhaafcoemaa
open Go.RowKit

/-- The better of two: y where it is the lesser (the greater), else b. -/
def pick (mx : Bool) (b y : Option Nat) : Option Nat := b.bind fun b => y.bind fun y => some (if ord 9223372036854775808 (y : Nat) (b : Nat) = (if mx then 1 else -1) then y else b)

def mres (mx : Bool) (w : World) (x y : Nat) : Nat := match FloatKind.f64.format.order x y with
  | none => (Question.nanMinMax .f64 mx x y).cut (w.tape w.drawn (.nanMinMax .f64 mx x y))
  | some .lt => if mx then y else x
  | some .gt => if mx then x else y
  | some .eq => if (Ieee.double.read x).neg = mx then y else x

def mwor (w : World) (x y : Nat) : World := if (FloatKind.f64.format.order x y).isSome then w else w.drew

theorem run_min (ts : Array TypeId) (t : TypeId) (x y : Nat) (w : World) : (Builtin.min_ ts t #[.float .f64 x, .float .f64 y]).run Try.prog w = .ok (.float .f64 (mres false w x y)) (mwor w x y) := by
  unfold mres mwor
  cases h : FloatKind.f64.format.order x y with
  | none => simp [Builtin.min_, Builtin.min2, h, Question.forced]
  | some o =>
    cases o
    · simp [Builtin.min_, Builtin.min2, h]
    · simp [Builtin.min_, Builtin.min2, h]
      cases hn : (Ieee.double.read x).neg <;> simp [FloatKind.decode, FloatKind.format, hn]
    · simp [Builtin.min_, Builtin.min2, h]

theorem run_max (ts : Array TypeId) (t : TypeId) (x y : Nat) (w : World) : (Builtin.max_ ts t #[.float .f64 x, .float .f64 y]).run Try.prog w = .ok (.float .f64 (mres true w x y)) (mwor w x y) := by
  unfold mres mwor
  cases h : FloatKind.f64.format.order x y with
  | none => simp [Builtin.max_, Builtin.max2, h, Question.forced]
  | some o =>
    cases o
    · simp [Builtin.max_, Builtin.max2, h]
    · simp [Builtin.max_, Builtin.max2, h]
      cases hn : (Ieee.double.read x).neg <;> simp [FloatKind.decode, FloatKind.format, hn]
    · simp [Builtin.max_, Builtin.max2, h]

theorem mwor_cell (w : World) (x y : Nat) (a : Addr) : (mwor w x y).cell? a = w.cell? a := by
  unfold mwor; split <;> rfl

theorem below_mwor {B : Nat} {w0 w : World} (h : Below B w0 w) (x y : Nat) : Below B w0 (mwor w x y) := by
  unfold mwor; split
  · exact h
  · exact h.drew

theorem neg_read {x : Nat} (hx : x < 18446744073709551616) : (Ieee.double.read x).neg = decide (9223372036854775808 ≤ x) := by
  have hs : (x / 9223372036854775808 % 2 == 1) = decide (9223372036854775808 ≤ x) := by
    by_cases c : 9223372036854775808 ≤ x
    · rw [decide_eq_true c, show x / 9223372036854775808 = 1 by omega]; rfl
    · rw [decide_eq_false c, show x / 9223372036854775808 = 0 by omega]; rfl
  rw [← hs]
  unfold Ieee.Format.read
  simp only [e_sign, e_bin, e_inf, e_least]
  repeat' split
  all_goals rfl

theorem order_none {x y : Nat} (h : FloatKind.f64.format.order x y = none) : cn x = none ∨ cn y = none := by
  rw [order_def] at h
  cases hx : Ieee.double.read x with
  | nan s t => exact Or.inl (cn_none (by rw [hx]; rfl))
  | infinity s =>
    cases hy : Ieee.double.read y with
    | nan s t => exact Or.inr (cn_none (by rw [hy]; rfl))
    | infinity s => rw [hx, hy] at h; cases h
    | number s m e => rw [hx, hy] at h; cases h
  | number s m e =>
    cases hy : Ieee.double.read y with
    | nan s t => exact Or.inr (cn_none (by rw [hy]; rfl))
    | infinity s => rw [hx, hy] at h; cases h
    | number s m e => rw [hx, hy] at h; cases h

theorem order_some {x y : Nat} {o : Ordering} (h : FloatKind.f64.format.order x y = some o) : (Ieee.double.read x).isNaN = false ∧ (Ieee.double.read y).isNaN = false := by
  rw [order_def] at h
  cases hx : Ieee.double.read x with
  | nan s t => rw [hx] at h; simp [Ieee.Datum.order] at h
  | infinity s =>
    cases hy : Ieee.double.read y with
    | nan s t => rw [hx, hy] at h; simp [Ieee.Datum.order] at h
    | infinity s => exact ⟨rfl, rfl⟩
    | number s m e => exact ⟨rfl, rfl⟩
  | number s m e =>
    cases hy : Ieee.double.read y with
    | nan s t => rw [hx, hy] at h; simp [Ieee.Datum.order] at h
    | infinity s => exact ⟨rfl, rfl⟩
    | number s m e => exact ⟨rfl, rfl⟩

theorem cut_nan2 (mx : Bool) (x y t : Nat) : (Ieee.double.read ((Question.nanMinMax .f64 mx x y).cut t)).isNaN = true := cut_nan x y t

theorem ord_facts (x y : Nat) (hx : x < 18446744073709551616) (hy : y < 18446744073709551616) :
    (sv x < sv y → ord 9223372036854775808 (y : Nat) (x : Nat) = 1) ∧ (sv y < sv x → ord 9223372036854775808 (y : Nat) (x : Nat) = -1) ∧
    (sv x = sv y → x = y ∨ (x = 9223372036854775808 ∧ y = 0) ∨ (x = 0 ∧ y = 9223372036854775808)) := by
  unfold sv ord
  by_cases c1 : x < 9223372036854775808 <;> by_cases c2 : y < 9223372036854775808
  all_goals simp only [c1, c2, if_true, if_false]
  all_goals refine ⟨fun h => ?_, fun h => ?_, fun h => ?_⟩
  all_goals first
    | omega
    | (repeat' split
       all_goals omega)

/-- The lesser (the greater) of two, all NaNs being one. -/
theorem cn_mres (mx : Bool) (w : World) {x y : Nat} (hx : x < 18446744073709551616) (hy : y < 18446744073709551616) : cn (mres mx w x y) = pick mx (cn x) (cn y) := by
  unfold mres
  cases h : FloatKind.f64.format.order x y with
  | none =>
    simp only
    rw [cn_none (cut_nan2 mx x y _)]
    rcases order_none h with e | e
    · rw [e]; rfl
    · rw [e]; cases cn x <;> rfl
  | some o =>
    obtain ⟨nx, ny⟩ := order_some h
    have ho := ord_sv hx hy nx ny
    rw [h] at ho
    have ho : o = compare (sv x) (sv y) := Option.some.inj ho
    rw [cn_some nx, cn_some ny]
    show _ = some (if ord 9223372036854775808 (y : Nat) (x : Nat) = (if mx then 1 else -1) then y else x)
    have gx := cn_some nx
    have gy := cn_some ny
    have hneg := neg_read hx
    obtain ⟨f1, f2, f3⟩ := ord_facts x y hx hy
    rcases Int.lt_trichotomy (sv x) (sv y) with c | c | c
    · rw [icmp_lt c] at ho
      subst ho
      rw [f1 c]
      cases mx
      · simpa using gx
      · simpa using gy
    · rw [icmp_eq c] at ho
      subst ho
      simp only
      rcases f3 c with e | ⟨e1, e2⟩ | ⟨e1, e2⟩
      · subst e
        simp only [ite_self]
        exact gx
      · subst e1 e2
        rw [hneg]
        cases mx
        · exact gx
        · exact gy
      · subst e1 e2
        rw [hneg]
        cases mx
        · exact gy
        · exact gx
    · rw [icmp_gt c] at ho
      subst ho
      rw [f2 c]
      cases mx
      · simpa using gy
      · simpa using gx

theorem mres_lt (mx : Bool) (w : World) {x y : Nat} (hx : x < 18446744073709551616) (hy : y < 18446744073709551616) : mres mx w x y < 18446744073709551616 := by
  unfold mres
  split
  · have h1 : (w.tape w.drawn (.nanMinMax .f64 mx x y) / 2) % 4503599627370495 < 4503599627370495 := Nat.mod_lt _ (by decide)
    show (w.tape w.drawn (.nanMinMax .f64 mx x y) % 2) * 9223372036854775808 + 9218868437227405312 + 1 + (w.tape w.drawn (.nanMinMax .f64 mx x y) / 2) % 4503599627370495 < _
    omega
  · split <;> assumption
  · split <;> assumption
  · split <;> assumption
end Go.Proofs.Ytogamhaafcoemaa
