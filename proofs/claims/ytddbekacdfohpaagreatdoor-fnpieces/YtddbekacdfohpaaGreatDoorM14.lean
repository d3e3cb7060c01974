/- QPlain QW1 QW3 QPlain2. -/
import Derived.WalkKit
import Derived.Laws.BitsAllLaws
import Derived.Test.YtddbekacdfohpaaGreatDoorRows
import Derived.WalkSpells
import Derived.WalkLawsBesides
import Derived.Deep.QuietTactic
import Derived.BigQuiet
namespace Go.Proofs.YtddbekacdfohpaaGreatDoor.Q

theorem nat_low (k x : Nat) (hk : k < 64) (hx : x < 2 ^ (k + 1)) : x &&& (18446744073709551615 - 2 ^ k) = x % 2 ^ k := by
  have e : 18446744073709551615 - 2 ^ k = 2 ^ 64 - (2 ^ k + 1) := by omega
  have h2 : 2 ^ k < 2 ^ 64 := Nat.pow_lt_pow_right (by omega) hk
  rw [e]
  apply Nat.eq_of_testBit_eq
  intro i
  rw [Nat.testBit_and, Nat.testBit_two_pow_sub_succ h2, Nat.testBit_mod_two_pow, Nat.testBit_two_pow]
  by_cases h1 : i < k
  · have : ¬ k = i := by omega
    have : i < 64 := by omega
    simp [*]
  · by_cases h3 : k = i
    · simp [h3]
    · have : x.testBit i = false := Nat.testBit_lt_two_pow (Nat.lt_of_lt_of_le hx (Nat.pow_le_pow_right (by omega) (by omega)))
      simp [this]

theorem and_top (k : Nat) (x : Int) (hk : k < 64) (h0 : 0 ≤ x) (hx : x < ((2 ^ (k + 1) : Nat) : Int)) :
    bits .and .u64 x ((2 ^ k : Nat) : Int) = (if x < ((2 ^ k : Nat) : Int) then 0 else ((2 ^ k : Nat) : Int)) ∧
    bits .andNot .u64 x ((2 ^ k : Nat) : Int) = (if x < ((2 ^ k : Nat) : Int) then x else x - ((2 ^ k : Nat) : Int)) := by
  obtain ⟨n, rfl⟩ := Int.eq_ofNat_of_zero_le h0
  have hn : n < 2 ^ (k + 1) := by exact_mod_cast hx
  have h2 : 2 ^ k < 2 ^ 64 := Nat.pow_lt_pow_right (by omega) hk
  have h3 : 2 ^ (k + 1) ≤ 2 ^ 64 := Nat.pow_le_pow_right (by omega) (by omega)
  have h4 : 2 ^ (k + 1) = 2 * 2 ^ k := by rw [Nat.pow_succ]; omega
  have h5 : 0 < 2 ^ k := Nat.two_pow_pos k
  have e1 := u64_and_nat n (2 ^ k) (by omega) (by omega)
  have e2 := u64_andNot_nat n (2 ^ k) (by omega) (by omega)
  rw [nat_bit] at e1
  rw [nat_low k n hk hn] at e2
  rw [e1, e2]
  generalize 2 ^ k = m at *
  by_cases h : n < m
  · have a1 : n / m = 0 := Nat.div_eq_of_lt h
    have a2 : n % m = n := Nat.mod_eq_of_lt h
    rw [a1, a2, if_pos (by exact_mod_cast h), if_pos (by exact_mod_cast h)]
    simp
  · have a1 : n / m = 1 := by
      apply Nat.div_eq_of_lt_le <;> omega
    have a2 : n % m = n - m := by rw [Nat.mod_eq_sub_mod (by omega), Nat.mod_eq_of_lt (by omega)]
    rw [a1, a2, if_neg (by omega), if_neg (by omega)]
    simp
    omega

theorem and16 (x : Int) (h0 : 0 ≤ x) (h1 : x < 65536) : bits .and .u64 x 32768 = (if x < 32768 then 0 else 32768) ∧ bits .andNot .u64 x 32768 = (if x < 32768 then x else x - 32768) := and_top 15 x (by omega) h0 h1
theorem and32 (x : Int) (h0 : 0 ≤ x) (h1 : x < 4294967296) : bits .and .u64 x 2147483648 = (if x < 2147483648 then 0 else 2147483648) ∧ bits .andNot .u64 x 2147483648 = (if x < 2147483648 then x else x - 2147483648) := and_top 31 x (by omega) h0 h1
theorem and64 (x : Int) (h0 : 0 ≤ x) (h1 : x < 18446744073709551616) : bits .and .u64 x 9223372036854775808 = (if x < 9223372036854775808 then 0 else 9223372036854775808) ∧ bits .andNot .u64 x 9223372036854775808 = (if x < 9223372036854775808 then x else x - 9223372036854775808) := and_top 63 x (by omega) h0 h1

/-- What 'rank' answers, where x is bits of a form whose sign bit is S. -/
def rk (S x l : Int) : Int := if x < S then x else -(x - S) - l
end Go.Proofs.YtddbekacdfohpaaGreatDoor.Q

namespace Go.Proofs.YtddbekacdfohpaaGreatDoor.Q
open Go.RowKit

/-- The table of the three forms lies in memory as the program's text lays it. -/
structure Shp (w : World) : Prop where
  c0 : w.cell? ⟨0, 0, none⟩ = some (.int .i64 0)
  c1 : w.cell? ⟨0, 1, none⟩ = some (.int .i64 0)
  c2 : w.cell? ⟨0, 2, none⟩ = some (.int .i64 0)
  c3 : w.cell? ⟨0, 3, none⟩ = some (.int .i64 16)
  c4 : w.cell? ⟨0, 4, none⟩ = some (.int .i64 11)
  c5 : w.cell? ⟨0, 5, none⟩ = some (.int .i64 15)
  c6 : w.cell? ⟨0, 6, none⟩ = some (.int .i64 32)
  c7 : w.cell? ⟨0, 7, none⟩ = some (.int .i64 24)
  c8 : w.cell? ⟨0, 8, none⟩ = some (.int .i64 127)
  c9 : w.cell? ⟨0, 9, none⟩ = some (.int .i64 64)
  c10 : w.cell? ⟨0, 10, none⟩ = some (.int .i64 53)
  c11 : w.cell? ⟨0, 11, none⟩ = some (.int .i64 1023)

/-- The three forms: number, width, precision, greatest exponent, sign bit, twice that. -/
def Form (f wd p t S D : Int) : Prop := (f = 1 ∧ wd = 16 ∧ p = 11 ∧ t = 15 ∧ S = 32768 ∧ D = 65536) ∨ (f = 2 ∧ wd = 32 ∧ p = 24 ∧ t = 127 ∧ S = 2147483648 ∧ D = 4294967296) ∨ (f = 3 ∧ wd = 64 ∧ p = 53 ∧ t = 1023 ∧ S = 9223372036854775808 ∧ D = 18446744073709551616)

end Go.Proofs.YtddbekacdfohpaaGreatDoor.Q

namespace Go.Proofs.YtddbekacdfohpaaGreatDoor.Q
open Go.RowKit

theorem l1Form_no (form : Int) (w : World) (h : form < 1 ∨ 3 < form) :
    Calls Tryz.prog 64 #[.int .i64 form] w fun e w' => e = .returned (.tuple #[.int .i64 0, .int .i64 0, .int .i64 0, .bool false]) ∧ w' = w := by
  have h1 : (form == 1) = false := by simp; omega
  have h2 : (form == 2) = false := by simp; omega
  have h3 : (form == 3) = false := by simp; omega
  clear h
  go_enter Tryz.func64, Tryz.ntmps64
  go_wp2
  exact bodyPost_ret (v := .tuple #[.int .i64 0, .int .i64 0, .int .i64 0, .bool false]) (by simp [results, Tryz.results64, go_sem]) rfl ⟨rfl, rfl⟩

theorem l1Form_any {f wd p t S D : Int} (hF : Form f wd p t S D) (w : World) :
    Calls Tryz.prog 64 #[.int .i64 f] w fun e w' => e = .returned (.tuple #[.int .i64 wd, .int .i64 p, .int .i64 t, .bool true]) ∧ w' = w := by
  rcases hF with ⟨rfl, rfl, rfl, rfl, rfl, rfl⟩ | ⟨rfl, rfl, rfl, rfl, rfl, rfl⟩ | ⟨rfl, rfl, rfl, rfl, rfl, rfl⟩
  all_goals
    go_enter Tryz.func64, Tryz.ntmps64
    go_wp2
    refine bodyPost_ret (v := .tuple #[.int .i64 _, .int .i64 _, .int .i64 _, .bool true]) (by simp [results, Tryz.results64, go_sem]) rfl ⟨rfl, rfl⟩

theorem l1Are_no (form x : Int) (w : World) (h : form < 1 ∨ 3 < form) :
    Calls Tryz.prog 101 #[.int .i64 form, .int .u64 x] w fun e w' => e = .returned (.bool false) ∧ w' = w := by
  go_enter Tryz.func101, Tryz.ntmps101
  go_wp2_with (go_at_call 64; refine (l1Form_no _ _ h).mono ?_; rintro e w' ⟨rfl, rfl⟩)
  go_ret
  exact ⟨rfl, rfl⟩

theorem l1Are_any {f wd p t S D : Int} (hF : Form f wd p t S D) (x : Int) (h0 : 0 ≤ x) (h1 : x < 18446744073709551616) (w : World) :
    Calls Tryz.prog 101 #[.int .i64 f, .int .u64 x] w fun e w' => e = .returned (.bool (x / D == 0)) ∧ w' = w := by
  have hF' := hF
  rcases hF with ⟨rfl, rfl, rfl, rfl, rfl, rfl⟩ | ⟨rfl, rfl, rfl, rfl, rfl, rfl⟩ | ⟨rfl, rfl, rfl, rfl, rfl, rfl⟩
  · go_enter Tryz.func101, Tryz.ntmps101
    go_wp2_with (go_at_call 64; refine (l1Form_any hF' _).mono ?_; rintro e w' ⟨rfl, rfl⟩)
    go_ret
    exact ⟨rfl, rfl⟩
  · go_enter Tryz.func101, Tryz.ntmps101
    go_wp2_with (go_at_call 64; refine (l1Form_any hF' _).mono ?_; rintro e w' ⟨rfl, rfl⟩)
    go_ret
    exact ⟨rfl, rfl⟩
  · have h2 : (x / 18446744073709551616 == 0) = true := by
      rw [beq_iff_eq]
      exact Int.ediv_eq_zero_of_lt h0 h1
    rw [h2]
    clear h2 h1
    go_enter Tryz.func101, Tryz.ntmps101
    go_wp2_with (go_at_call 64; refine (l1Form_any hF' _).mono ?_; rintro e w' ⟨rfl, rfl⟩)
    go_ret
    exact ⟨rfl, rfl⟩

theorem l1Sign_true {f wd p t S D : Int} (hF : Form f wd p t S D) (w : World) :
    Calls Tryz.prog 50 #[.int .i64 f, .bool true] w fun e w' => e = .returned (.int .u64 S) ∧ w' = w := by
  have hF' := hF
  rcases hF with ⟨rfl, rfl, rfl, rfl, rfl, rfl⟩ | ⟨rfl, rfl, rfl, rfl, rfl, rfl⟩ | ⟨rfl, rfl, rfl, rfl, rfl, rfl⟩
  all_goals
    go_enter Tryz.func50, Tryz.ntmps50
    go_wp2_with (go_at_call 64; refine (l1Form_any hF' _).mono ?_; rintro e w' ⟨rfl, rfl⟩)
    go_ret
    exact ⟨rfl, rfl⟩

/-- The order of all bits, of a form whose sign bit is S. -/
def ord (S x y : Int) : Int :=
  if x = y then 0 else if S ≤ x ∧ y < S then -1 else if x < S ∧ S ≤ y then 1 else if (x < S ∧ x < y) ∨ (S ≤ x ∧ y < x) then -1 else 1

theorem and_any {f wd p t S D : Int} (hF : Form f wd p t S D) (x : Int) (h0 : 0 ≤ x) (h1 : x < D) :
    bits .and .u64 x S = (if x < S then 0 else S) ∧ bits .andNot .u64 x S = (if x < S then x else x - S) := by
  rcases hF with ⟨rfl, rfl, rfl, rfl, rfl, rfl⟩ | ⟨rfl, rfl, rfl, rfl, rfl, rfl⟩ | ⟨rfl, rfl, rfl, rfl, rfl, rfl⟩
  · exact and16 x h0 h1
  · exact and32 x h0 h1
  · exact and64 x h0 h1

end Go.Proofs.YtddbekacdfohpaaGreatDoor.Q

namespace Go.Proofs.YtddbekacdfohpaaGreatDoor.Q

/-- m is man times 2^k. -/
structure Tz (m man : Int) (k : Nat) : Prop where
  pos : 1 ≤ man
  eq : m = man * ((2 ^ k : Nat) : Int)

theorem Tz.start {m : Int} (h : 1 ≤ m) : Tz m m 0 := ⟨h, by simp⟩

theorem Tz.step {m man : Int} {k : Nat} (h : Tz m man k) (he : man % 2 = 0) : Tz m (man / 2) (k + 1) := by
  refine ⟨by have := h.pos; omega, ?_⟩
  rw [h.eq, Nat.pow_succ]
  have e : man = man / 2 * 2 := by omega
  generalize man / 2 = q at e
  subst e
  push_cast
  rw [Int.mul_assoc, Int.mul_comm 2]

theorem Tz.le {m man : Int} {k : Nat} (h : Tz m man k) (hm : m < 18446744073709551616) : k ≤ 63 ∧ man ≤ m := by
  have hp := h.pos
  have he := h.eq
  have h1 : (1 : Int) ≤ ((2 ^ k : Nat) : Int) := by exact_mod_cast Nat.one_le_two_pow
  have h2 : ((2 ^ k : Nat) : Int) ≤ m := by
    rw [he]
    have := Int.mul_le_mul_of_nonneg_right hp (show (0 : Int) ≤ ((2 ^ k : Nat) : Int) by omega)
    omega
  have h3 : man ≤ m := by
    rw [he]
    have := Int.mul_le_mul_of_nonneg_left h1 (show (0 : Int) ≤ man by omega)
    omega
  refine ⟨?_, h3⟩
  apply Nat.le_of_lt_succ
  apply (Nat.pow_lt_pow_iff_right (a := 2) (by omega)).1
  have : ((2 ^ k : Nat) : Int) < ((2 ^ 64 : Nat) : Int) := by
    have e : ((2 ^ 64 : Nat) : Int) = 18446744073709551616 := rfl
    rw [e]; omega
  exact_mod_cast this

theorem Tz.unique {m a b : Int} {j k : Nat} (h : Tz m a j) (g : Tz m b k) (ha : a % 2 = 1) (hb : b % 2 = 1) : a = b ∧ j = k := by
  have key : ∀ {a b : Int} {j k : Nat}, Tz m a j → Tz m b k → a % 2 = 1 → j ≤ k → a = b ∧ j = k := by
    intro a b j k h g ha hjk
    obtain ⟨d, rfl⟩ := Nat.exists_eq_add_of_le hjk
    have e := h.eq.symm.trans g.eq
    rw [Nat.pow_add] at e
    have hp : ((2 ^ j : Nat) : Int) ≠ 0 := by
      have : (1 : Int) ≤ ((2 ^ j : Nat) : Int) := by exact_mod_cast Nat.one_le_two_pow
      omega
    have e2 : a = b * ((2 ^ d : Nat) : Int) := by
      apply Int.eq_of_mul_eq_mul_right hp
      rw [e]
      push_cast
      rw [Int.mul_comm ((2 : Int) ^ j), ← Int.mul_assoc]
    cases d with
    | zero => simp at e2; exact ⟨e2, rfl⟩
    | succ d =>
      rw [Nat.pow_succ] at e2
      exfalso
      push_cast at e2
      rw [← Int.mul_assoc] at e2
      omega
  rcases Nat.le_total j k with hjk | hjk
  · exact key h g ha hjk
  · obtain ⟨x, y⟩ := key g h hb hjk
    exact ⟨x.symm, y.symm⟩
end Go.Proofs.YtddbekacdfohpaaGreatDoor.Q
