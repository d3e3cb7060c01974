/- Crc16 in plain numbers. -/
import Derived.Test.YtndagpompioooaaDoorX0
import Derived.Laws.BitsAllLaws
namespace Go.Proofs.YtndagpompioooaaDoor
open Go.RowKit

theorem u16w {x : Nat} (h : x < 65536) : IntKind.u16.wrap (x : Int) = (x : Int) := by rw [IntKind.wrap_u16]; omega
theorem ofInt_u16 {x : Nat} (h : x < 65536) : (BitVec.ofInt 16 (x : Int)).toNat = x := by
  rw [BitVec.toNat_ofInt]; omega
theorem xor_u16 {a b : Nat} (ha : a < 65536) (hb : b < 65536) : bits .xor .u16 (a : Int) (b : Int) = ((a ^^^ b : Nat) : Int) := by
  have hx : a ^^^ b < 2 ^ 16 := Nat.xor_lt_two_pow (by omega) (by omega)
  show IntKind.u16.wrap (((BitVec.ofInt 16 (a : Int)) ^^^ (BitVec.ofInt 16 (b : Int))).toNat : Int) = _
  rw [BitVec.toNat_xor, ofInt_u16 ha, ofInt_u16 hb, u16w (by omega)]

/-- One of the eight steps, and k of them. -/
def cst (c : Nat) : Nat := if 32768 ≤ c then (2 * c) % 65536 ^^^ 4129 else 2 * c
def crb : Nat → Nat → Nat
  | 0, c => c
  | k + 1, c => cst (crb k c)
/-- Crc16 behind i bytes. -/
def crc (xs : Nat → Int) : Nat → Nat
  | 0 => 65535
  | i + 1 => crb 8 (crc xs i ^^^ 256 * (xs i).toNat)
/-- Crc16 of a list of any length. -/
def crv (n : Nat) (xs : Nat → Int) : Int := if 65536 < n then 0 else ((crc xs n : Nat) : Int)
/-- Bytes. -/
def Byt (n : Nat) (xs : Nat → Int) : Prop := ∀ k, k < n → 0 ≤ xs k ∧ xs k < 256

theorem cst_lt {c : Nat} (h : c < 65536) : cst c < 65536 := by
  unfold cst
  split
  · exact Nat.xor_lt_two_pow (n := 16) (by omega) (by omega)
  · omega

theorem crb_lt (k : Nat) {c : Nat} (h : c < 65536) : crb k c < 65536 := by
  induction k with
  | zero => exact h
  | succ k ih => exact cst_lt ih

theorem put_lt {c x : Nat} (h : c < 65536) (hx : x < 256) : c ^^^ 256 * x < 65536 := Nat.xor_lt_two_pow (n := 16) h (by omega)

theorem crc_lt {n : Nat} {xs : Nat → Int} (hb : Byt n xs) (i : Nat) (hi : i ≤ n) : crc xs i < 65536 := by
  induction i with
  | zero => show 65535 < 65536; omega
  | succ i ih =>
    have := hb i (by omega)
    exact crb_lt 8 (put_lt (ih (by omega)) (by omega))

theorem crb_succ (k c : Nat) : crb (k + 1) c = cst (crb k c) := rfl
theorem crc_succ (xs : Nat → Int) (i : Nat) : crc xs (i + 1) = crb 8 (crc xs i ^^^ 256 * (xs i).toNat) := rfl
theorem cst_high {c : Nat} (h : 32768 ≤ c) : cst c = (2 * c) % 65536 ^^^ 4129 := by unfold cst; rw [if_pos h]
theorem cst_low {c : Nat} (h : ¬ 32768 ≤ c) : cst c = 2 * c := by unfold cst; rw [if_neg h]
theorem mod_high (c : Nat) : (2 * c ^^^ 4129) % 65536 = (2 * c) % 65536 ^^^ 4129 := by
  have := Nat.xor_mod_two_pow (a := 2 * c) (b := 4129) (n := 16)
  rw [show (2 : Nat) ^ 16 = 65536 from rfl, show 4129 % 65536 = 4129 from rfl] at this
  exact this
end Go.Proofs.YtndagpompioooaaDoor
