/- Exclusive or, bits. -/
import Derived.Test.YtgkcofjhajjjgabA1
namespace Go.Proofs.Ytgkcofjhajjjgab
open Go.RowKit

theorem wrap_nat {x : Nat} (h : x < 9223372036854775808) : IntKind.i64.wrap (x : Int) = (x : Int) := by rw [IntKind.wrap_i64]; omega

theorem ofInt_i64 {x : Nat} (h : x < 9223372036854775808) : (BitVec.ofInt 64 (x : Int)).toNat = x := by
  rw [BitVec.toNat_ofInt]; omega

/-- Exclusive or, and: of numbers that are not below 0. -/
theorem xor_nat {a b : Nat} (ha : a < 9223372036854775808) (hb : b < 9223372036854775808) : bits .xor .i64 (a : Int) (b : Int) = ((a ^^^ b : Nat) : Int) := by
  have hx : a ^^^ b < 2 ^ 63 := Nat.xor_lt_two_pow (by omega) (by omega)
  show IntKind.i64.wrap (((BitVec.ofInt 64 (a : Int)) ^^^ (BitVec.ofInt 64 (b : Int))).toNat : Int) = _
  rw [BitVec.toNat_xor, ofInt_i64 ha, ofInt_i64 hb, wrap_nat (by omega)]

theorem and_nat {a b : Nat} (ha : a < 9223372036854775808) (hb : b < 9223372036854775808) : bits .and .i64 (a : Int) (b : Int) = ((a &&& b : Nat) : Int) := by
  have hx : a &&& b < 2 ^ 63 := Nat.lt_of_le_of_lt Nat.and_le_left (by omega)
  show IntKind.i64.wrap (((BitVec.ofInt 64 (a : Int)) &&& (BitVec.ofInt 64 (b : Int))).toNat : Int) = _
  rw [BitVec.toNat_and, ofInt_i64 ha, ofInt_i64 hb, wrap_nat (by omega)]

/-- Bits. -/
abbrev Bit (x : Int) : Prop := x = 0 ∨ x = 1
abbrev Bts (n : Nat) (xs : Nat → Int) : Prop := n ≤ 1024 ∧ ∀ k, k < n → Bit (xs k)

/-- Exclusive or of two bits. -/
def xb (a b : Int) : Int := if a = b then 0 else 1

theorem xb_bit (a b : Int) : Bit (xb a b) := by
  unfold xb
  split
  · exact .inl rfl
  · exact .inr rfl

theorem xb_comm (a b : Int) : xb a b = xb b a := by
  unfold xb
  by_cases h : a = b
  · rw [if_pos h, if_pos h.symm]
  · rw [if_neg h, if_neg (fun e => h e.symm)]

theorem xb_zero {a : Int} (h : Bit a) : xb a 0 = a := by
  rcases h with rfl | rfl
  · rfl
  · rfl

theorem xb_back {a b : Int} (ha : Bit a) (hb : Bit b) : xb a (xb a b) = b := by
  rcases ha with rfl | rfl
  · rcases hb with rfl | rfl
    · rfl
    · rfl
  · rcases hb with rfl | rfl
    · rfl
    · rfl

theorem xb_assoc {a b c : Int} (ha : Bit a) (hb : Bit b) (hc : Bit c) : xb (xb a b) c = xb a (xb b c) := by
  rcases ha with rfl | rfl
  · rcases hb with rfl | rfl
    · rcases hc with rfl | rfl
      · rfl
      · rfl
    · rcases hc with rfl | rfl
      · rfl
      · rfl
  · rcases hb with rfl | rfl
    · rcases hc with rfl | rfl
      · rfl
      · rfl
    · rcases hc with rfl | rfl
      · rfl
      · rfl

theorem xor_bit {a b : Int} (ha : Bit a) (hb : Bit b) : bits .xor .i64 a b = xb a b := by
  rcases ha with rfl | rfl
  · rcases hb with rfl | rfl
    · exact xor_nat (a := 0) (b := 0) (by omega) (by omega)
    · exact xor_nat (a := 0) (b := 1) (by omega) (by omega)
  · rcases hb with rfl | rfl
    · exact xor_nat (a := 1) (b := 0) (by omega) (by omega)
    · exact xor_nat (a := 1) (b := 1) (by omega) (by omega)
end Go.Proofs.Ytgkcofjhajjjgab
