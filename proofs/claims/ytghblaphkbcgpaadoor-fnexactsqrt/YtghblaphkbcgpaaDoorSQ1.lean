/- The root of a word. -/
import Derived.Test.YtghblaphkbcgpaaDoorSQ0
import Derived.Laws.BitsLemmas
import Derived.WalkKit
import Derived.WalkSpells
import Derived.WalkLawsBesides
import Derived.Deep.QuietTactic
import Derived.BigQuiet
namespace Go.Proofs.YtghblaphkbcgpaaDoor
open Go.RowKit

/-- How far the word is taken. -/
structure Wr (X k m rest x : Nat) : Prop where
  sq : m * m + rest = X * 4 ^ k / 18446744073709551616
  le : rest ≤ 2 * m
  sm : m < 2 ^ k
  xx : x = X * 4 ^ k % 18446744073709551616

theorem Wr.next {X k m rest x : Nat} (h : Wr X k m rest x) :
    (4 * rest + x / 4611686018427387904 < 4 * m + 1 → Wr X (k + 1) (2 * m) (4 * rest + x / 4611686018427387904) (x * 4 % 18446744073709551616)) ∧
    (4 * m + 1 ≤ 4 * rest + x / 4611686018427387904 → Wr X (k + 1) (2 * m + 1) (4 * rest + x / 4611686018427387904 - (4 * m + 1)) (x * 4 % 18446744073709551616)) := by
  obtain ⟨h1, h2, h3, h4⟩ := h
  have hp : X * 4 ^ (k + 1) = X * 4 ^ k * 4 := by rw [Nat.pow_succ, Nat.mul_assoc]
  have hT : X * 4 ^ (k + 1) / 18446744073709551616 = 4 * (X * 4 ^ k / 18446744073709551616) + x / 4611686018427387904 := by
    rw [hp, h4]
    generalize X * 4 ^ k = Z
    omega
  have hx : x * 4 % 18446744073709551616 = X * 4 ^ (k + 1) % 18446744073709551616 := by
    rw [hp, h4]
    generalize X * 4 ^ k = Z
    omega
  have hx2 : x < 18446744073709551616 := by rw [h4]; exact Nat.mod_lt _ (by decide)
  have h5 : 2 ^ (k + 1) = 2 * 2 ^ k := by rw [Nat.pow_succ, Nat.mul_comm]
  obtain ⟨s1, s2⟩ := root_step h1 h2 (show x / 4611686018427387904 ≤ 3 by omega)
  refine ⟨fun g => ?_, fun g => ?_⟩
  · obtain ⟨g1, g2⟩ := s1 g
    exact ⟨by rw [hT, g1], g2, by omega, hx⟩
  · obtain ⟨g1, g2⟩ := s2 g
    exact ⟨by rw [hT, g1], g2, by omega, hx⟩

theorem or_low (a b : Nat) (hb : b ≤ 3) (h : 4 * a < 18446744073709551616) : bits .or .u64 ((a : Int) * 4) (b : Int) = ((4 * a + b : Nat) : Int) := by
  have h1 := u64_or_nat (4 * a) b h (by omega)
  rw [show ((a : Int) * 4) = ((4 * a : Nat) : Int) by omega]
  refine h1.trans ?_
  congr 1
  have h2 := Nat.two_pow_add_eq_or_of_lt (i := 2) (b := b) (by omega) a
  rw [show (2 : Nat) ^ 2 = 4 by decide] at h2
  exact h2.symm


theorem or_oneW (Q : Nat) (h : Q < 18446744073709551616) : bits .or .u64 (Q : Int) 1 = ((Q / 2 * 2 + 1 : Nat) : Int) := by
  have := u64_or_nat Q 1 h (by decide)
  refine this.trans ?_
  congr 1
  apply Nat.eq_of_testBit_eq
  intro i
  rw [Nat.testBit_or]
  cases i with
  | zero => simp
  | succ i =>
    rw [Nat.testBit_succ, Nat.testBit_succ, Nat.testBit_succ, show (Q / 2 * 2 + 1) / 2 = Q / 2 by omega]
    simp

theorem wrap_self (x : Nat) (h : x < 18446744073709551616) : IntKind.u64.wrap (x : Int) = (x : Int) := by
  rw [IntKind.wrap_u64]
  omega

theorem wrap_four (x : Nat) : IntKind.u64.wrap ((x : Int) * 4) = ((x * 4 % 18446744073709551616 : Nat) : Int) := by
  rw [IntKind.wrap_u64]
  omega

set_option maxHeartbeats 4000000 in
theorem wroot_any (X : Nat) (hX : X < 18446744073709551616) (w : World) : Calls Tryd.prog 43 #[.int .u64 (X : Int)] w fun e w' => ∃ m rest : Nat, e = .returned (.tuple #[.int .u64 (m : Int), .int .u64 (rest : Int)]) ∧ m * m + rest = X * 4503599627370496 ∧ rest ≤ 2 * m ∧ m < 288230376151711744 ∧ w' = w := by
  go_enter Tryd.func43, Tryd.ntmps43
  go_wp2
  go_loopw [0, 4, 5, 6, 7] (fun xv mv rv _ i wr => ∃ k m rest x : Nat, i = .int .i64 k ∧ mv = .int .u64 (m : Int) ∧ rv = .int .u64 (rest : Int) ∧ xv = .int .u64 (x : Int) ∧ k ≤ 58 ∧ wr = w ∧ Hid (Wr X k m rest x)) (fun _ _ _ _ i _ => 58 - (intOf i).toNat)
  case atStart => exact ⟨0, 0, 0, X, rfl, rfl, rfl, rfl, by omega, rfl, by rw [Nat.pow_zero, Nat.mul_one]; omega, by omega, by decide, by rw [Nat.pow_zero, Nat.mul_one]; omega⟩
  case round =>
    obtain ⟨k, m, rest, x, rfl, rfl, rfl, rfl, hk, rfl, hwr⟩ := hrel
    by_cases h1 : k < 58
    · have hm : m < 288230376151711744 := by
        have h2 := hwr.out.sm
        have h3 := Nat.pow_le_pow_right (show 0 < 2 by decide) (show k ≤ 58 by omega)
        exact Nat.lt_of_lt_of_le h2 h3
      have hr := hwr.out.le
      have hx : x < 18446744073709551616 := by rw [hwr.out.xx]; exact Nat.mod_lt _ (by decide)
      have nx := hwr.out.next
      have e1 : bits .or .u64 ((rest : Int) * 4) ((x : Int) / 4611686018427387904) = ((4 * rest + x / 4611686018427387904 : Nat) : Int) := by
        rw [show ((x : Int) / 4611686018427387904) = ((x / 4611686018427387904 : Nat) : Int) by omega]
        exact or_low rest (x / 4611686018427387904) (by omega) (by omega)
      have e2 : bits .or .u64 ((m : Int) * 2 * 2) 1 = ((4 * m + 1 : Nat) : Int) := by
        have := or_oneW (4 * m) (by omega)
        rw [show ((m : Int) * 2 * 2) = ((4 * m : Nat) : Int) by omega, this]
        omega
      have e3 : bits .or .u64 ((m : Int) * 2) 1 = ((2 * m + 1 : Nat) : Int) := by
        have := or_oneW (2 * m) (by omega)
        rw [show ((m : Int) * 2) = ((2 * m : Nat) : Int) by omega, this]
        omega
      have e4 : IntKind.u64.wrap ((x : Int) * 4) = ((x * 4 % 18446744073709551616 : Nat) : Int) := wrap_four x
      obtain ⟨b, hb⟩ : ∃ b, b = 4 * rest + x / 4611686018427387904 := ⟨_, rfl⟩
      obtain ⟨y, hy⟩ : ∃ y, y = x * 4 % 18446744073709551616 := ⟨_, rfl⟩
      have hb4 : b ≤ 4611686018427387904 := by omega
      rw [← hb] at e1 nx
      rw [← hy] at e4 nx
      have NX : Hid _ := nx
      clear hb hy nx
      by_cases h2 : 4 * m + 1 ≤ b
      · have e5 : IntKind.u64.wrap ((b : Int) - ((4 * m + 1 : Nat) : Int)) = ((b - (4 * m + 1) : Nat) : Int) := by
          rw [show (b : Int) - ((4 * m + 1 : Nat) : Int) = ((b - (4 * m + 1) : Nat) : Int) by omega]
          exact wrap_self _ (by omega)
        obtain ⟨c, hc⟩ : ∃ c, c = 4 * m + 1 := ⟨_, rfl⟩
        rw [← hc] at e2 e5 h2
        have HC : Hid (c = 4 * m + 1) := hc
        clear hc
        go_wp2
        go_roundw
        case rel => exact ⟨k + 1, 2 * m + 1, b - c, y, by go_num, rfl, by first | rfl | (congr 1; omega), rfl, by omega, by trivial, by rw [HC.out]; exact NX.out.2 (by have := HC.out; omega)⟩
        case measure => simp [intOf]; omega
      · obtain ⟨c, hc⟩ : ∃ c, c = 4 * m + 1 := ⟨_, rfl⟩
        rw [← hc] at e2 h2
        have HC : Hid (c = 4 * m + 1) := hc
        clear hc
        go_wp2
        go_roundw
        case rel => exact ⟨k + 1, 2 * m, b, y, by go_num, by first | rfl | (congr 1; omega), rfl, rfl, by omega, by trivial, NX.out.1 (by have := HC.out; omega)⟩
        case measure => simp [intOf]; omega
    · obtain rfl : k = 58 := by omega
      go_wp2
      go_ret2
      refine ⟨m, rest, rfl, ?_, hwr.out.le, ?_, rfl⟩
      · rw [hwr.out.sq]
        omega
      · exact hwr.out.sm
end Go.Proofs.YtghblaphkbcgpaaDoor
