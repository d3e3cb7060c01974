/- Bits below 2^64. -/
import Derived.Test.YtcmjhgijejmiaaaF1
namespace Go.Proofs.Ytcmjhgijejmiaaa
open Go.RowKit

/-- Below 2^64. -/
def Lt64 (x : Option Nat) : Prop := ∀ b, x = some b → b < 18446744073709551616

theorem word_lt (s : Bool) (k : Nat) (h : k ≤ Ieee.double.infRung) : Ieee.double.word s k < 18446744073709551616 := by
  have e1 : Ieee.double.signWeight = 9223372036854775808 := by decide
  have e2 : Ieee.double.infRung = 9218868437227405312 := by decide
  rw [e2] at h
  unfold Ieee.Format.word
  rw [e1]
  split <;> omega

theorem write_lt (d : Ieee.Datum) (h : d.isNaN = false) : Ieee.double.write d < 18446744073709551616 := by
  cases d with
  | number s m e =>
    simp only [Ieee.Format.write, Ieee.Format.nearest]
    split
    · exact word_lt _ _ (Nat.zero_le _)
    · exact word_lt _ _ (Nat.min_le_right _ _)
  | infinity s => exact word_lt _ _ (Nat.le_refl _)
  | nan s f => simp [Ieee.Datum.isNaN] at h

theorem bits_lt {op : BinOp} {x y r : Nat} (h : floatBits op .f64 x y = some r) : r < 18446744073709551616 := by
  unfold floatBits at h
  split at h
  · obtain ⟨d, hd, rfl⟩ := map_some h
    exact write_lt _ (sum_not_nan hd).2.2
  · obtain ⟨d, hd, rfl⟩ := map_some h
    exact write_lt _ (sum_not_nan hd).2.2
  · obtain ⟨d, hd, rfl⟩ := map_some h
    exact write_lt _ (product_not_nan hd).2.2
  · obtain ⟨d, hd, rfl⟩ := map_some h
    exact write_lt _ (quotient_not_nan hd).2.2
  · cases h

theorem cop_lt (op : BinOp) (x y : Option Nat) : Lt64 (cop op x y) := by
  intro b h
  unfold cop at h
  cases x with
  | none => cases h
  | some a =>
    cases y with
    | none => cases h
    | some c => exact bits_lt h

/-- A NaN, or below 2^64. -/
def Bd (x : Nat) : Prop := cn x = none ∨ x < 18446744073709551616

theorem bd_cn {x : Nat} {o : Option Nat} (h : cn x = o) (ho : Lt64 o) : Bd x := by
  cases o with
  | none => exact .inl h
  | some b =>
    right
    unfold cn at h
    split at h
    · cases h
    · cases h; exact ho _ rfl

theorem bd_fres (op : BinOp) (_ : op = .add ∨ op = .sub ∨ op = .mul ∨ op = .quo) (w : World) (x y : Nat) : Bd (fres op w x y) := bd_cn (cn_fres op w x y) (cop_lt _ _ _)

theorem bd_int (n : Int) : Bd (floatOfInt .f64 n) := .inr (write_lt (.number (decide (n < 0)) n.natAbs 0) rfl)
end Go.Proofs.Ytcmjhgijejmiaaa
