/- Ones of a byte. -/
import Derived.Test.YtpiemjabmipldaaDoorRows
import Derived.WalkKit
import Derived.WalkSpells
import Derived.WalkLawsBesides
import Derived.Deep.QuietTactic
import Derived.BigQuiet
namespace Go.Proofs.YtpiemjabmipldaaDoor
open Go.RowKit

theorem wrap_nat {x : Nat} (h : x < 9223372036854775808) : IntKind.i64.wrap (x : Int) = (x : Int) := by rw [IntKind.wrap_i64]; omega

theorem ofInt_i64 {x : Nat} (h : x < 9223372036854775808) : (BitVec.ofInt 64 (x : Int)).toNat = x := by
  rw [BitVec.toNat_ofInt]; omega

/-- Exclusive or, and: of numbers that are not below 0. -/
theorem xor_nat {a b : Nat} (ha : a < 9223372036854775808) (hb : b < 9223372036854775808) : bits .xor .i64 (a : Int) (b : Int) = ((a ^^^ b : Nat) : Int) := by
  have hx : a ^^^ b < 2 ^ 63 := Nat.xor_lt_two_pow (by omega) (by omega)
  show IntKind.i64.wrap (((BitVec.ofInt 64 (a : Int)) ^^^ (BitVec.ofInt 64 (b : Int))).toNat : Int) = _
  rw [BitVec.toNat_xor, ofInt_i64 ha, ofInt_i64 hb, wrap_nat (by omega)]

theorem and_nat {a b : Nat} (ha : a < 9223372036854775808) (hb : b < 9223372036854775808) : bits .and .i64 (a : Int) (b : Int) = ((a &&& b : Nat) : Int) := by
  have hx : a &&& b < 2 ^ 63 := Nat.lt_of_le_of_lt Nat.and_le_left (by omega)
  show IntKind.i64.wrap (((BitVec.ofInt 64 (a : Int)) &&& (BitVec.ofInt 64 (b : Int))).toNat : Int) = _
  rw [BitVec.toNat_and, ofInt_i64 ha, ofInt_i64 hb, wrap_nat (by omega)]

/-- How many ones a byte has. -/
def ones (x : Nat) : Nat := x % 2 + x / 2 % 2 + x / 4 % 2 + x / 8 % 2 + x / 16 % 2 + x / 32 % 2 + x / 64 % 2 + x / 128 % 2

theorem ones_le (x : Nat) : ones x ≤ 8 := by unfold ones; omega
theorem ones_step {x : Nat} (h : x < 256) : ones x = x % 2 + ones (x / 2) := by unfold ones; omega
theorem ones_zero : ones 0 = 0 := rfl

theorem o1 : ∀ x : Fin 256, bits .and .u64 ((x.val : Int) / 2) 6148914691236517205 = ((x.val / 2 &&& 85 : Nat) : Int) ∧ bits .and .u64 (x.val : Int) 6148914691236517205 = ((x.val &&& 85 : Nat) : Int) := by decide +kernel
theorem o2 : ∀ x : Fin 256, bits .and .u64 ((x.val : Int) / 4) 3689348814741910323 = ((x.val / 4 &&& 51 : Nat) : Int) ∧ bits .and .u64 (x.val : Int) 3689348814741910323 = ((x.val &&& 51 : Nat) : Int) := by decide +kernel
theorem o3 : ∀ x : Fin 256, bits .and .u64 (x.val : Int) 1085102592571150095 = ((x.val &&& 15 : Nat) : Int) := by decide +kernel
theorem o4 : ∀ x : Fin 256, bits .and .i64 (x.val : Int) 127 = ((x.val &&& 127 : Nat) : Int) := by decide +kernel
def oA (x : Nat) : Nat := (x / 2 &&& 85) + (x &&& 85)
def oB (x : Nat) : Nat := (x / 4 &&& 51) + (x &&& 51)
def oC (x : Nat) : Nat := (x / 16 + x) &&& 15
theorem o5 : ∀ x : Fin 256, oA x.val < 256 ∧ oB (oA x.val) < 200 ∧ oB (oA x.val) / 16 + oB (oA x.val) < 256 ∧ oC (oB (oA x.val)) = ones x.val ∧ (ones x.val &&& 127) = ones x.val := by decide +kernel
theorem u64w {x : Nat} (h : x < 18446744073709551616) : IntKind.u64.wrap (x : Int) = (x : Int) := by rw [IntKind.wrap_u64]; omega

set_option maxHeartbeats 2000000 in
theorem ones64_any (x : Nat) (h : x < 256) (w : World) : Calls Tryd.prog 12 #[.int .u64 (x : Int)] w fun e w' => e = .returned (.int .i64 ((ones x : Nat) : Int)) ∧ w' = w := by
  obtain ⟨a1, a2⟩ := o1 ⟨x, h⟩
  obtain ⟨b0, b1, b2, b3, b4⟩ := o5 ⟨x, h⟩
  obtain ⟨c1, c2⟩ := o2 ⟨oA x, b0⟩
  have d1 := o3 ⟨oB (oA x) / 16 + oB (oA x), b2⟩
  have hl := ones_le x
  have f1 := o4 ⟨ones x, by omega⟩
  simp only at a1 a2 b0 b1 b2 b3 b4 c1 c2 d1 f1
  have d2 : bits .and .u64 ((oB (oA x) / 16 + oB (oA x) : Nat) : Int) 1085102592571150095 = ((ones x : Nat) : Int) := d1.trans (congrArg _ b3)
  rw [b4] at f1
  generalize ones x = r at *
  have g1 : IntKind.u64.wrap (((x / 2 &&& 85 : Nat) : Int) + ((x &&& 85 : Nat) : Int)) = ((oA x : Nat) : Int) := by rw [← Int.natCast_add]; exact u64w (x := oA x) (by omega)
  generalize (x / 2 &&& 85) = p1 at *
  generalize (x &&& 85) = p2 at *
  generalize oA x = p3 at *
  have g2 : IntKind.u64.wrap (((p3 / 4 &&& 51 : Nat) : Int) + ((p3 &&& 51 : Nat) : Int)) = ((oB p3 : Nat) : Int) := by rw [← Int.natCast_add]; exact u64w (x := oB p3) (by omega)
  generalize (p3 / 4 &&& 51) = q1 at *
  generalize (p3 &&& 51) = q2 at *
  generalize oB p3 = q3 at *
  obtain ⟨q4, hq⟩ : ∃ q4 : Nat, q4 = q3 / 16 := ⟨_, rfl⟩
  have hq2 : (q3 : Int) / 16 = (q4 : Int) := by omega
  obtain ⟨q5, hq5⟩ : ∃ q5 : Nat, q5 = q4 + q3 := ⟨_, rfl⟩
  rw [← hq, ← hq5] at d2
  have g3 : IntKind.u64.wrap ((q4 : Int) + (q3 : Int)) = (q5 : Int) := by rw [← Int.natCast_add, ← hq5]; exact u64w (by omega)
  have g4 : (r : Int) / 256 = 0 := by omega
  have g5 : (r : Int) / 65536 = 0 := by omega
  have g6 : (r : Int) / 4294967296 = 0 := by omega
  have g7 : IntKind.u64.wrap (r : Int) = (r : Int) := u64w (by omega)
  clear hq hq5 b2 b3 d1
  go_enter Tryd.func12, Tryd.ntmps12
  go_wp2
  go_ret
  exact ⟨rfl, rfl⟩

theorem ones_any (x : Nat) (h : x < 256) (w : World) : Calls Tryd.prog 10 #[.int .u64 (x : Int)] w fun e w' => e = .returned (.int .i64 ((ones x : Nat) : Int)) ∧ w' = w := by
  have i1 := ones64_any x h
  generalize ones x = r at *
  go_enter Tryd.func10, Tryd.ntmps10
  go_wp2_with (first | (go_at_call 12; (with_reducible refine (i1 _).mono ?_); rintro e w' ⟨rfl, hw⟩; obtain rfl := hw.symm))
  go_ret
  exact ⟨rfl, rfl⟩
end Go.Proofs.YtpiemjabmipldaaDoor
