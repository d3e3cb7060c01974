/- Near on both sides. -/
import Derived.Test.YtcmjhgijejmiaaaF1
import Derived.Test.YtcmjhgijejmiaaaG1
import Derived.Laws.Externs
namespace Go.Proofs.Ytcmjhgijejmiaaa
open Go.RowKit

theorem xor_sign {k : Nat} (h : k < 9223372036854775808) : k ^^^ 9223372036854775808 = 9223372036854775808 + k := by
  have e : (9223372036854775808 : Nat) = 2 ^ 63 := by decide
  rw [e] at *
  apply Nat.eq_of_testBit_eq
  intro i
  rw [Nat.testBit_xor, Nat.testBit_two_pow]
  by_cases hi : i = 63
  · subst hi
    rw [Nat.testBit_two_pow_add_eq]
    simp
  · rw [decide_eq_false (by omega), Bool.xor_false]
    rcases Nat.lt_or_gt_of_ne hi with h1 | h1
    · rw [Nat.testBit_two_pow_add_gt h1]
    · have h2 : 2 ^ 64 ≤ 2 ^ i := Nat.pow_le_pow_right (by decide) (by omega)
      have a : k.testBit i = false := Nat.testBit_lt_two_pow (by omega)
      have b : (2 ^ 63 + k).testBit i = false := Nat.testBit_lt_two_pow (by omega)
      rw [a, b]

theorem nearest_neg (m : Nat) (i : Int) : Op.negFloat .f64 (Ieee.double.nearest false m i) = Ieee.double.nearest true m i := by
  show Ieee.double.nearest false m i ^^^ 9223372036854775808 = _
  unfold Ieee.Format.nearest
  dsimp only
  split
  · exact xor_sign (by decide)
  · have h := Nat.min_le_right ((max (i + (m.log2 : Int) - Ieee.double.fractionBits) Ieee.double.leastPlace - Ieee.double.leastPlace).toNat * Ieee.double.binade + Ieee.Toward.even.cut false (m <<< (i - max (i + (m.log2 : Int) - Ieee.double.fractionBits) Ieee.double.leastPlace).toNat) (max (i + (m.log2 : Int) - Ieee.double.fractionBits) Ieee.double.leastPlace - i).toNat) Ieee.double.infRung
    rw [e_inf] at h
    simp only [cut_even, e_inf] at *
    unfold Ieee.Format.word
    rw [e_sign]
    simp only [Bool.false_eq_true, if_false, if_true]
    exact xor_sign (by omega)

/-- x made whole, to the nearest; all NaNs are one. -/
def cnear (x : Nat) : Option Nat := if (Ieee.double.read x).isNaN then none else some (Ieee.double.write ((Ieee.double.read x).integral .even))

theorem order_def (x y : Nat) : FloatKind.f64.format.order x y = (Ieee.double.read x).order (Ieee.double.read y) := rfl
theorem read_0 : Ieee.double.read 0 = .number false 0 (-1074) := by decide +kernel

theorem cmp_lt {a b : Int} (h : a < b) : compare a b = .lt := by rw [Int.compare_eq_ite_lt, if_pos h]
theorem cmp_gt {a b : Int} (h : b < a) : compare a b = .gt := by rw [Int.compare_eq_ite_lt, if_neg (by omega), if_pos h]

end Go.Proofs.Ytcmjhgijejmiaaa
