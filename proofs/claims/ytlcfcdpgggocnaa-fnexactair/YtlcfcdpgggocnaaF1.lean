/- Floats as the program sees them: all NaNs are one. -/
import Derived.Test.YtlcfcdpgggocnaaRows
import Derived.WalkKit
import Derived.WalkSpells
import Derived.WalkLawsBesides
import Derived.Deep.QuietTactic
import Derived.BigQuiet
namespace Go.Proofs.Ytlcfcdpgggocnaa
open Go.RowKit

/-- What bits stand for; all NaNs are one. -/
def cn (b : Nat) : Option Nat := if (Ieee.double.read b).isNaN then none else some b

/-- An operation on what bits stand for. -/
def cop (op : BinOp) (x y : Option Nat) : Option Nat := x.bind fun a => y.bind fun b => floatBits op .f64 a b

theorem word_not_nan (neg : Bool) (k : Nat) (h : k ≤ Ieee.double.infRung) : (Ieee.double.read (Ieee.double.word neg k)).isNaN = false := by
  have e1 : Ieee.double.signWeight = 9223372036854775808 := by decide
  have e2 : Ieee.double.infRung = 9218868437227405312 := by decide
  have e3 : Ieee.double.binade = 4503599627370496 := by decide
  rw [e2] at h
  have hm : Ieee.double.word neg k % 9223372036854775808 = k := by
    unfold Ieee.Format.word
    rw [e1]
    split <;> omega
  unfold Ieee.Format.read
  simp only [e1, e2, e3, hm]
  split
  · rfl
  · split
    · rfl
    · split
      · rfl
      · omega

theorem write_not_nan (d : Ieee.Datum) (h : d.isNaN = false) : (Ieee.double.read (Ieee.double.write d)).isNaN = false := by
  cases d with
  | number s m e =>
    simp only [Ieee.Format.write, Ieee.Format.nearest]
    split
    · exact word_not_nan _ _ (Nat.zero_le _)
    · exact word_not_nan _ _ (Nat.min_le_right _ _)
  | infinity s => exact word_not_nan _ _ (Nat.le_refl _)
  | nan s f => simp [Ieee.Datum.isNaN] at h

theorem sum_not_nan {a b c : Ieee.Datum} (h : a.sum b = some c) : a.isNaN = false ∧ b.isNaN = false ∧ c.isNaN = false := by
  cases a <;> cases b <;> simp only [Ieee.Datum.sum] at h <;> first | (cases h; done) | skip
  all_goals first
    | (cases h; exact ⟨rfl, rfl, rfl⟩)
    | (split at h <;> first | (cases h; exact ⟨rfl, rfl, rfl⟩) | cases h)

theorem product_not_nan {a b c : Ieee.Datum} (h : a.product b = some c) : a.isNaN = false ∧ b.isNaN = false ∧ c.isNaN = false := by
  cases a <;> cases b <;> simp only [Ieee.Datum.product] at h <;> first | (cases h; done) | skip
  all_goals first
    | (cases h; exact ⟨rfl, rfl, rfl⟩)
    | (split at h <;> first | (cases h; exact ⟨rfl, rfl, rfl⟩) | cases h)

theorem quotient_not_nan {n : Nat} {a b c : Ieee.Datum} (h : a.quotient n b = some c) : a.isNaN = false ∧ b.isNaN = false ∧ c.isNaN = false := by
  cases a <;> cases b <;> simp only [Ieee.Datum.quotient] at h <;> first | (cases h; done) | skip
  all_goals first
    | (cases h; exact ⟨rfl, rfl, rfl⟩)
    | (split at h <;> first | (cases h; exact ⟨rfl, rfl, rfl⟩) | (split at h <;> first | (cases h; exact ⟨rfl, rfl, rfl⟩) | cases h))

theorem opposite_nan (a : Ieee.Datum) : a.opposite.isNaN = a.isNaN := by cases a <;> rfl

theorem map_some {α β : Type} {o : Option α} {f : α → β} {r : β} (h : o.map f = some r) : ∃ d, o = some d ∧ f d = r := by
  cases o with
  | none => cases h
  | some d => exact ⟨d, rfl, by simpa using h⟩

/-- A valid operation: no operand is a NaN, nor what it gives. -/
theorem bits_not_nan {op : BinOp} {x y r : Nat} (h : floatBits op .f64 x y = some r) : (Ieee.double.read x).isNaN = false ∧ (Ieee.double.read y).isNaN = false ∧ (Ieee.double.read r).isNaN = false := by
  unfold floatBits at h
  split at h
  · obtain ⟨d, hd, rfl⟩ := map_some h
    obtain ⟨h1, h2, h3⟩ := sum_not_nan hd
    exact ⟨h1, h2, write_not_nan _ h3⟩
  · obtain ⟨d, hd, rfl⟩ := map_some h
    obtain ⟨h1, h2, h3⟩ := sum_not_nan hd
    rw [opposite_nan] at h2
    exact ⟨h1, h2, write_not_nan _ h3⟩
  · obtain ⟨d, hd, rfl⟩ := map_some h
    obtain ⟨h1, h2, h3⟩ := product_not_nan hd
    exact ⟨h1, h2, write_not_nan _ h3⟩
  · obtain ⟨d, hd, rfl⟩ := map_some h
    obtain ⟨h1, h2, h3⟩ := quotient_not_nan hd
    exact ⟨h1, h2, write_not_nan _ h3⟩
  · cases h

theorem cn_some {x : Nat} (h : (Ieee.double.read x).isNaN = false) : cn x = some x := by simp [cn, h]

theorem cn_none {x : Nat} (h : (Ieee.double.read x).isNaN = true) : cn x = none := by simp [cn, h]

/-- What a float operation gives in a world (a NaN is drawn), and the world behind it. -/
def fres (op : BinOp) (w : World) (x y : Nat) : Nat := (floatBits op .f64 x y).getD ((Question.nanBits .f64 x y).cut (w.tape w.drawn (.nanBits .f64 x y)))
def fwor (op : BinOp) (w : World) (x y : Nat) : World := if (floatBits op .f64 x y).isSome then w else w.drew

theorem run_fop (op : BinOp) (hop : op = .add ∨ op = .sub ∨ op = .mul ∨ op = .quo) (P : Program) (t : TypeId) (x y : Nat) (w : World) :
    (binOp op t (.float .f64 x) (.float .f64 y)).run P w = .ok (.float .f64 (fres op w x y)) (fwor op w x y) := by
  unfold fres fwor
  cases h : floatBits op .f64 x y with
  | some r => rw [run_float_arith w op t .f64 x y r h]; simp
  | none =>
    unfold floatBits at h
    rcases hop with rfl | rfl | rfl | rfl <;> simp only at h <;> simp [binOp, Op.floatArith, h, Question.forced]

theorem fwor_cell (op : BinOp) (w : World) (x y : Nat) (a : Addr) : (fwor op w x y).cell? a = w.cell? a := by
  unfold fwor; split <;> rfl

theorem fwor_frozen (op : BinOp) (w : World) (x y : Nat) (a : Addr) : (fwor op w x y).frozen? a = w.frozen? a := by
  unfold fwor; split <;> rfl

theorem fwor_heap (op : BinOp) (w : World) (x y : Nat) : (fwor op w x y).heap = w.heap := by
  unfold fwor; split <;> rfl

theorem below_fwor {B : Nat} {w0 w : World} (h : Below B w0 w) (op : BinOp) (x y : Nat) : Below B w0 (fwor op w x y) := by
  unfold fwor; split
  · exact h
  · exact h.drew

theorem cut_nan (x y t : Nat) : (Ieee.double.read ((Question.nanBits .f64 x y).cut t)).isNaN = true := by
  have e1 : Ieee.double.signWeight = 9223372036854775808 := by decide
  have e2 : Ieee.double.infRung = 9218868437227405312 := by decide
  have e3 : Ieee.double.binade = 4503599627370496 := by decide
  have e : (Question.nanBits .f64 x y).cut t = (t % 2) * 9223372036854775808 + 9218868437227405312 + 1 + (t / 2) % 4503599627370495 := rfl
  have h1 : (t / 2) % 4503599627370495 < 4503599627370495 := Nat.mod_lt _ (by decide)
  have h2 : t % 2 < 2 := Nat.mod_lt _ (by decide)
  rw [e]
  generalize (t / 2) % 4503599627370495 = k at *
  generalize t % 2 = s at *
  unfold Ieee.Format.read
  simp only [e1, e2, e3]
  rw [if_neg (by omega), if_neg (by omega), if_neg (by omega)]
  rfl

/-- An operation's answer, all NaNs being one, is told by what its operands stand for. -/
theorem cn_fres (op : BinOp) (w : World) (x y : Nat) : cn (fres op w x y) = cop op (cn x) (cn y) := by
  unfold fres
  cases h : floatBits op .f64 x y with
  | some r =>
    obtain ⟨h1, h2, h3⟩ := bits_not_nan h
    rw [cn_some h1, cn_some h2]
    simp only [Option.getD_some, cop, Option.bind_some, h]
    exact cn_some h3
  | none =>
    simp only [Option.getD_none]
    rw [cn_none (cut_nan _ _ _)]
    cases hx : (Ieee.double.read x).isNaN with
    | true => simp [cn_none hx, cop]
    | false =>
      cases hy : (Ieee.double.read y).isNaN with
      | true => simp [cn_none hy, cop]
      | false => rw [cn_some hx, cn_some hy]; simp [cop, h]

theorem order_nan {x : Nat} (h : (Ieee.double.read x).isNaN = true) : FloatKind.f64.format.order x x = none := by
  show (Ieee.double.read x).order (Ieee.double.read x) = none
  cases hx : Ieee.double.read x <;> rw [hx] at h <;> first | (simp [Ieee.Datum.isNaN] at h; done) | rfl

theorem order_same {x : Nat} (h : (Ieee.double.read x).isNaN = false) : FloatKind.f64.format.order x x = some .eq := by
  show (Ieee.double.read x).order (Ieee.double.read x) = some .eq
  cases hx : Ieee.double.read x with
  | nan s f => rw [hx] at h; simp [Ieee.Datum.isNaN] at h
  | infinity s => simp [Ieee.Datum.order]
  | number s m e => simp [Ieee.Datum.order]

theorem quo_one {x : Nat} (h : (Ieee.double.read x).isNaN = false) : ∃ r, floatBits .quo .f64 4607182418800017408 x = some r := by
  have e : Ieee.double.read 4607182418800017408 = .number false 4503599627370496 (-52) := by decide +kernel
  show ∃ r, ((Ieee.double.read 4607182418800017408).quotient _ (Ieee.double.read x)).map _ = some r
  rw [e]
  cases hx : Ieee.double.read x with
  | nan s f => rw [hx] at h; simp [Ieee.Datum.isNaN] at h
  | infinity s => exact ⟨_, rfl⟩
  | number s m e =>
    simp only [Ieee.Datum.quotient]
    by_cases hm : m = 0
    · simp [hm]
    · simp [hm]

end Go.Proofs.Ytlcfcdpgggocnaa
