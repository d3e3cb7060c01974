/- Gray and UnGray: both sides. -/
import Derived.Test.YtpoiejmpdlmegaaAI
import Derived.Test.YtpoiejmpdlmegaaX0
namespace Go.Proofs.Ytpoiejmpdlmegaa
open Go.RowKit

/-- Gray. -/
def gry (n : Nat) : Nat := n ^^^ n / 2

/-- All halves of n together. -/
def ugF : Nat → Nat → Nat
  | 0, _ => 0
  | f + 1, n => if n = 0 then 0 else n ^^^ ugF f (n / 2)

/-- UnGray. -/
def ung (n : Nat) : Nat := ugF n n

theorem ugF_zero (f : Nat) : ugF f 0 = 0 := by
  cases f with
  | zero => rfl
  | succ f => rw [ugF, if_pos rfl]

theorem ugF_any (f g n : Nat) (hf : n ≤ f) (hg : n ≤ g) : ugF f n = ugF g n := by
  induction f generalizing g n with
  | zero =>
    obtain rfl : n = 0 := by omega
    rw [ugF_zero, ugF_zero]
  | succ f ih =>
    cases g with
    | zero =>
      obtain rfl : n = 0 := by omega
      rw [ugF_zero, ugF_zero]
    | succ g =>
      rw [ugF, ugF]
      by_cases h : n = 0
      · rw [if_pos h, if_pos h]
      · rw [if_neg h, if_neg h, ih g (n / 2) (by omega) (by omega)]

theorem ung_step {n : Nat} (h : 0 < n) : ung n = n ^^^ ung (n / 2) := by
  obtain ⟨m, rfl⟩ : ∃ m, n = m + 1 := ⟨n - 1, by omega⟩
  unfold ung
  rw [ugF, if_neg (by omega), ugF_any m ((m + 1) / 2) ((m + 1) / 2) (by omega) (Nat.le_refl _)]

theorem ung_zero : ung 0 = 0 := rfl

theorem ung_lt {n k : Nat} (h : n < 2 ^ k) : ung n < 2 ^ k := by
  induction n using Nat.strongRecOn with
  | _ n ih =>
    by_cases h0 : n = 0
    · subst h0; exact h
    · rw [ung_step (by omega)]
      exact Nat.xor_lt_two_pow h (ih (n / 2) (by omega) (Nat.lt_of_le_of_lt (Nat.div_le_self _ _) h))

theorem gry_lt {n k : Nat} (h : n < 2 ^ k) : gry n < 2 ^ k := Nat.xor_lt_two_pow h (Nat.lt_of_le_of_lt (Nat.div_le_self _ _) h)

theorem xor_div2 (a b : Nat) : (a ^^^ b) / 2 = a / 2 ^^^ b / 2 := by
  apply Nat.eq_of_testBit_eq
  intro i
  rw [Nat.testBit_div_two, Nat.testBit_xor, Nat.testBit_xor, Nat.testBit_div_two, Nat.testBit_div_two]

/-- What is made Gray comes back. -/
theorem ung_gry (n : Nat) : ung (gry n) = n := by
  induction n using Nat.strongRecOn with
  | _ n ih =>
    by_cases h0 : gry n = 0
    · rw [h0, ung_zero]
      have : n ^^^ n / 2 = 0 := h0
      have h1 : (n ^^^ n / 2) ^^^ n / 2 = n := by rw [Nat.xor_assoc, Nat.xor_self, Nat.xor_zero]
      rw [this, Nat.zero_xor] at h1
      omega
    · have hn : 0 < n := by
        rcases Nat.eq_zero_or_pos n with rfl | h
        · exact absurd rfl h0
        · exact h
      have h1 : gry n / 2 = gry (n / 2) := xor_div2 _ _
      rw [ung_step (by omega), h1, ih (n / 2) (by omega)]
      show (n ^^^ n / 2) ^^^ n / 2 = n
      rw [Nat.xor_assoc, Nat.xor_self, Nat.xor_zero]

theorem two63 : (2 : Nat) ^ 62 = 4611686018427387904 := rfl

theorem ung_room {n : Nat} (h : n ≤ 4000000000000000000) : ung n < 4611686018427387904 := ung_lt (k := 62) (by rw [two63]; omega)
theorem gry_room {n : Nat} (h : n ≤ 4000000000000000000) : gry n < 4611686018427387904 := gry_lt (k := 62) (by rw [two63]; omega)

/-- Numbers that have a Gray. -/
abbrev Gok (x : Int) : Prop := 0 ≤ x ∧ x ≤ 4000000000000000000

theorem has_any (x : Int) (w : World) : Calls Try.prog 35 #[.int .i64 x] w fun e w' => e = .returned (.bool (decide (Gok x))) ∧ w' = w := by
  go_enter Try.func35, Try.ntmps35
  by_cases h : 0 ≤ x
  · by_cases h1 : x ≤ 4000000000000000000
    · go_wp2
      go_ret
      exact ⟨by simp [h, h1], rfl⟩
    · go_wp2
      go_ret
      exact ⟨by simp [h1], rfl⟩
  · go_wp2
    go_ret
    exact ⟨by simp; omega, rfl⟩

theorem iGry_yes {n : Nat} (h : n ≤ 4000000000000000000) (w : World) : Calls Try.prog 22 #[.int .i64 (n : Int)] w fun e w' => e = .returned (.int .i64 ((gry n : Nat) : Int)) ∧ w' = w := by
  have i1 := has_any (n : Int)
  rw [decide_eq_true (by omega)] at i1
  obtain ⟨q, hq⟩ : ∃ q : Nat, q = n / 2 := ⟨_, rfl⟩
  have e1 : (n : Int) / 2 = (q : Int) := by omega
  have e3 : (n : Int).tdiv 2 = (q : Int) := by rw [Int.tdiv_eq_ediv_of_nonneg (by omega)]; omega
  have e2 : bits .xor .i64 (n : Int) (q : Int) = ((gry n : Nat) : Int) := by rw [xor_nat (by omega) (by omega), hq]; rfl
  generalize gry n = z at *
  clear hq
  go_enter Try.func22, Try.ntmps22
  go_wp2_with (first | (go_at_call 35; (with_reducible refine (i1 _).mono ?_); rintro e w' ⟨rfl, hw⟩; obtain rfl := hw.symm))
  go_ret
  exact ⟨rfl, rfl⟩

theorem iGry_no {x : Int} (h : ¬ Gok x) (w : World) : Calls Try.prog 22 #[.int .i64 x] w fun e w' => e = .returned (.int .i64 0) ∧ w' = w := by
  have i1 := has_any x
  rw [decide_eq_false (by omega)] at i1
  go_enter Try.func22, Try.ntmps22
  go_wp2_with (first | (go_at_call 35; (with_reducible refine (i1 _).mono ?_); rintro e w' ⟨rfl, hw⟩; obtain rfl := hw.symm))
  go_ret
  exact ⟨rfl, rfl⟩

set_option maxHeartbeats 1000000 in
theorem sUng_yes {n : Nat} (h : n ≤ 4000000000000000000) (w : World) : Calls Try.prog 33 #[.int .i64 (n : Int)] w fun e w' => e = .returned (.int .i64 ((ung n : Nat) : Int)) ∧ w' = w := by
  have i1 := in_any (n : Int) 0 4000000000000000000
  rw [decide_eq_true (by omega)] at i1
  obtain ⟨z, hz⟩ : ∃ z : Nat, z = ung n := ⟨_, rfl⟩
  have HZ : Hid (z = ung n) := hz
  rw [← hz]
  clear hz
  go_enter Try.func33, Try.ntmps33
  go_wp2_with (first | (go_at_call 32; (with_reducible refine (i1 _).mono ?_); rintro e w' ⟨rfl, hw⟩; obtain rfl := hw.symm))
  clear i1
  go_loopw [0, 3] (fun i x wr => ∃ k y : Nat, i = .int .i64 (k : Int) ∧ x = .int .i64 (y : Int) ∧ k ≤ n ∧ y < 4611686018427387904 ∧ wr = w ∧ Hid (y ^^^ ung k = z)) (fun i _ _ => (intOf i).toNat)
  case atStart => exact ⟨n, 0, rfl, rfl, Nat.le_refl _, by omega, rfl, (Nat.zero_xor _).trans HZ.out.symm⟩
  case round =>
    obtain ⟨k, y, rfl, rfl, hk, hy, rfl, hrel⟩ := hrel
    by_cases h1 : 0 < k
    · obtain ⟨q, hq⟩ : ∃ q : Nat, q = k / 2 := ⟨_, rfl⟩
      have e1 : (k : Int) / 2 = (q : Int) := by omega
      have e3 : (k : Int).tdiv 2 = (q : Int) := by rw [Int.tdiv_eq_ediv_of_nonneg (by omega)]; omega
      obtain ⟨y2, hy2⟩ : ∃ y2 : Nat, y2 = y ^^^ k := ⟨_, rfl⟩
      have e2 : bits .xor .i64 (y : Int) (k : Int) = (y2 : Int) := by rw [xor_nat (by omega) (by omega), hy2]
      have hb2 : y2 < 4611686018427387904 := by rw [hy2]; exact Nat.xor_lt_two_pow (n := 62) hy (by rw [two63]; omega)
      have HR : Hid (y2 ^^^ ung q = z) := by rw [hy2, hq, Nat.xor_assoc, ← ung_step h1]; exact hrel.out
      have hlt : q < k := by omega
      clear hy2 hq hrel
      go_wp2
      go_roundw
      case rel => exact ⟨q, y2, rfl, rfl, by omega, hb2, by trivial, HR.out⟩
      case measure => simp [intOf]; omega
    · obtain rfl : k = 0 := by omega
      have hzy : y = z := by have := hrel.out; rw [ung_zero, Nat.xor_zero] at this; exact this
      subst hzy
      go_wp2
      go_ret
      exact ⟨rfl, rfl⟩

theorem sUng_no {x : Int} (h : ¬ Gok x) (w : World) : Calls Try.prog 33 #[.int .i64 x] w fun e w' => e = .returned (.int .i64 0) ∧ w' = w := by
  have i1 := in_any x 0 4000000000000000000
  rw [decide_eq_false (by omega)] at i1
  go_enter Try.func33, Try.ntmps33
  go_wp2_with (first | (go_at_call 32; (with_reducible refine (i1 _).mono ?_); rintro e w' ⟨rfl, hw⟩; obtain rfl := hw.symm))
  go_ret
  exact ⟨rfl, rfl⟩

set_option maxHeartbeats 1000000 in
theorem iUng_yes {n : Nat} (h : n ≤ 4000000000000000000) (w : World) : Calls Try.prog 29 #[.int .i64 (n : Int)] w fun e w' => e = .returned (.int .i64 ((ung n : Nat) : Int)) ∧ w' = w := by
  have i1 := has_any (n : Int)
  rw [decide_eq_true (by omega)] at i1
  obtain ⟨z, hz⟩ : ∃ z : Nat, z = ung n := ⟨_, rfl⟩
  have HZ : Hid (z = ung n) := hz
  rw [← hz]
  clear hz
  go_enter Try.func29, Try.ntmps29
  go_wp2_with (first | (go_at_call 35; (with_reducible refine (i1 _).mono ?_); rintro e w' ⟨rfl, hw⟩; obtain rfl := hw.symm))
  clear i1
  go_loopw [0, 3] (fun i x wr => ∃ k y : Nat, i = .int .i64 (k : Int) ∧ x = .int .i64 (y : Int) ∧ k ≤ n ∧ y < 4611686018427387904 ∧ wr = w ∧ Hid (y ^^^ ung k = z)) (fun i _ _ => (intOf i).toNat)
  case atStart => exact ⟨n, 0, rfl, rfl, Nat.le_refl _, by omega, rfl, (Nat.zero_xor _).trans HZ.out.symm⟩
  case round =>
    obtain ⟨k, y, rfl, rfl, hk, hy, rfl, hrel⟩ := hrel
    by_cases h1 : 0 < k
    · obtain ⟨q, hq⟩ : ∃ q : Nat, q = k / 2 := ⟨_, rfl⟩
      have e1 : (k : Int) / 2 = (q : Int) := by omega
      have e3 : (k : Int).tdiv 2 = (q : Int) := by rw [Int.tdiv_eq_ediv_of_nonneg (by omega)]; omega
      obtain ⟨y2, hy2⟩ : ∃ y2 : Nat, y2 = y ^^^ k := ⟨_, rfl⟩
      have e2 : bits .xor .i64 (y : Int) (k : Int) = (y2 : Int) := by rw [xor_nat (by omega) (by omega), hy2]
      have hb2 : y2 < 4611686018427387904 := by rw [hy2]; exact Nat.xor_lt_two_pow (n := 62) hy (by rw [two63]; omega)
      have HR : Hid (y2 ^^^ ung q = z) := by rw [hy2, hq, Nat.xor_assoc, ← ung_step h1]; exact hrel.out
      have hlt : q < k := by omega
      clear hy2 hq hrel
      go_wp2
      go_roundw
      case rel => exact ⟨q, y2, rfl, rfl, by omega, hb2, by trivial, HR.out⟩
      case measure => simp [intOf]; omega
    · obtain rfl : k = 0 := by omega
      have hzy : y = z := by have := hrel.out; rw [ung_zero, Nat.xor_zero] at this; exact this
      subst hzy
      go_wp2
      go_ret
      exact ⟨rfl, rfl⟩

theorem iUng_no {x : Int} (h : ¬ Gok x) (w : World) : Calls Try.prog 29 #[.int .i64 x] w fun e w' => e = .returned (.int .i64 0) ∧ w' = w := by
  have i1 := has_any x
  rw [decide_eq_false (by omega)] at i1
  go_enter Try.func29, Try.ntmps29
  go_wp2_with (first | (go_at_call 35; (with_reducible refine (i1 _).mono ?_); rintro e w' ⟨rfl, hw⟩; obtain rfl := hw.symm))
  go_ret
  exact ⟨rfl, rfl⟩
end Go.Proofs.Ytpoiejmpdlmegaa
