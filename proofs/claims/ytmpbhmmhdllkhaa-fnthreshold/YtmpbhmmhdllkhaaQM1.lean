/- The library's product of two words in two words; the program's product of two numbers. -/
import Derived.Lib.Mul64
import Derived.Test.YtmpbhmmhdllkhaaQS6
namespace Go.Proofs.Ytmpbhmmhdllkhaa.Q
open Go.RowKit

theorem mask32 (x : Nat) (h : x < 18446744073709551616) : bits .and .u64 (x : Int) 4294967295 = ((x % 4294967296 : Nat) : Int) := by
  refine (u64_and_nat x 4294967295 h (by decide)).trans ?_
  congr 1
  exact Nat.and_two_pow_sub_one_eq_mod x 32

theorem wrap_nat (x y : Nat) (h : x * y < 18446744073709551616) : IntKind.u64.wrap ((x : Int) * (y : Int)) = ((x * y : Nat) : Int) := by
  rw [← Int.natCast_mul, IntKind.wrap_u64]
  omega

set_option maxHeartbeats 1000000 in
theorem mul64_any (A B : Nat) (w : World) (hA : A < 18446744073709551616) (hB : B < 18446744073709551616) :
    Calls Try.prog 21 #[.int .u64 (A : Int), .int .u64 (B : Int)] w fun e w' => e = .returned (.tuple #[.int .u64 (A * B / 18446744073709551616 : Nat), .int .u64 (A * B % 18446744073709551616 : Nat)]) ∧ w' = w := by
  obtain ⟨l1, l2, l3, l4⟩ := Lib.mul64_hi A B hA hB
  have g1 := Lib.half_mul_le (a := A / 4294967296) (b := B / 4294967296) (by omega) (by omega)
  have g2 := Lib.half_mul_le (a := A / 4294967296) (b := B % 4294967296) (by omega) (by omega)
  have g3 := Lib.half_mul_le (a := A % 4294967296) (b := B / 4294967296) (by omega) (by omega)
  have r1 := mask32 A hA
  have r2 := mask32 B hB
  have r3 : (A : Int) / 4294967296 = ((A / 4294967296 : Nat) : Int) := by rw [Int.natCast_ediv]; rfl
  have r4 : (B : Int) / 4294967296 = ((B / 4294967296 : Nat) : Int) := by rw [Int.natCast_ediv]; rfl
  have m00 := wrap_nat (A % 4294967296) (B % 4294967296) l1
  have m10 := wrap_nat (A / 4294967296) (B % 4294967296) (by omega)
  have m01 := wrap_nat (A % 4294967296) (B / 4294967296) (by omega)
  have m11 := wrap_nat (A / 4294967296) (B / 4294967296) (by omega)
  have ml : IntKind.u64.wrap ((A : Int) * (B : Int)) = ((A * B % 18446744073709551616 : Nat) : Int) := by
    rw [← Int.natCast_mul, IntKind.wrap_u64]
    rfl
  have HL : Hid _ := l4
  clear l4
  generalize A * B / 18446744073709551616 = hi at *
  generalize A * B % 18446744073709551616 = lo at *
  generalize A % 4294967296 = x0 at *
  generalize A / 4294967296 = x1 at *
  generalize B % 4294967296 = y0 at *
  generalize B / 4294967296 = y1 at *
  generalize x0 * y0 = p00 at *
  generalize x1 * y0 = p10 at *
  generalize x0 * y1 = p01 at *
  generalize x1 * y1 = p11 at *
  have mk := mask32 (p10 + p00 / 4294967296) l2
  have mk' : bits .and .u64 ((p10 : Int) + (p00 : Int) / 4294967296) 4294967295 = (((p10 + p00 / 4294967296) % 4294967296 : Nat) : Int) := by
    rw [← mk]
    congr 1
  clear mk
  obtain ⟨tm, htm⟩ : ∃ tm, tm = (p10 + p00 / 4294967296) % 4294967296 := ⟨_, rfl⟩
  rw [← htm] at mk' l3
  have HT : Hid (tm = (p10 + p00 / 4294967296) % 4294967296) := htm
  have htb : tm < 4294967296 := by omega
  clear htm
  have HE : Hid (∀ x : Int, x = (hi : Int) → Ending.returned (.tuple #[.int .u64 x, .int .u64 (lo : Int)]) = Ending.returned (.tuple #[.int .u64 (hi : Int), .int .u64 (lo : Int)])) := fun x hx => by rw [hx]
  go_enter Try.func21, Try.ntmps21
  go_wp2
  go_ret2
  exact ⟨HE.out _ (by have h1 := HL.out; have h2 := HT.out; omega), rfl⟩

end Go.Proofs.Ytmpbhmmhdllkhaa.Q
