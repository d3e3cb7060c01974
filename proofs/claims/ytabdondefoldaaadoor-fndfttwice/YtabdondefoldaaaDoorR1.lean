/- Powers modulo a prime: the model's. -/
import Derived.Test.YtabdondefoldaaaDoorRows
import Derived.WalkKit
import Derived.WalkSpells
import Derived.WalkLawsBesides
import Derived.Deep.QuietTactic
import Derived.BigQuiet
namespace Go.Proofs.YtabdondefoldaaaDoor
open Go.RowKit

/-- One of the three primes. -/
abbrev Prm (p : Int) : Prop := p = 998244353 ∨ p = 167772161 ∨ p = 469762049

theorem Prm.bounds {p : Int} (h : Prm p) : 167772161 ≤ p ∧ p ≤ 998244353 := by rcases h with h | h | h <;> omega

theorem pow_emod (x p : Int) : ∀ k : Nat, (x % p) ^ k % p = x ^ k % p
  | 0 => by rw [Int.pow_zero, Int.pow_zero]
  | k + 1 => by rw [Int.pow_succ, Int.pow_succ, Int.mul_emod, pow_emod x p k, Int.emod_emod_of_dvd _ (Int.dvd_refl p), ← Int.mul_emod]

theorem sq_emod (A p : Int) (k : Nat) : (A * A % p) ^ k % p = A ^ (2 * k) % p := by
  rw [pow_emod]
  congr 1
  rw [Int.pow_mul]
  congr 1
  rw [Int.pow_succ, Int.pow_succ, Int.pow_zero, Int.one_mul]

/-- One step of squaring, the last digit 0. -/
theorem pow_even (r A p : Int) (k : Nat) : r * (A * A % p) ^ k % p = r * A ^ (2 * k) % p := by
  rw [Int.mul_emod, sq_emod, ← Int.mul_emod]

/-- One step of squaring, the last digit 1. -/
theorem pow_odd (r A p : Int) (k : Nat) : r * A % p * (A * A % p) ^ k % p = r * A ^ (2 * k + 1) % p := by
  rw [Int.mul_emod, sq_emod, Int.emod_emod_of_dvd _ (Int.dvd_refl p), ← Int.mul_emod, Int.pow_succ]
  congr 1
  rw [Int.mul_comm (A ^ (2 * k)) A, Int.mul_assoc]

theorem mul_lt {a b p : Int} (ha0 : 0 ≤ a) (ha : a < p) (hb0 : 0 ≤ b) (hb : b < p) (hp : p ≤ 998244353) : 0 ≤ a * b ∧ a * b ≤ 996491788296388609 := by
  refine ⟨Int.mul_nonneg ha0 hb0, ?_⟩
  have h1 := Int.mul_nonneg (show 0 ≤ 998244353 - a by omega) hb0
  have h2 := Int.mul_nonneg (show (0 : Int) ≤ 998244353 by omega) (show 0 ≤ 998244353 - b by omega)
  have e1 : (998244353 - a) * b = 998244353 * b - a * b := by grind
  omega

set_option maxHeartbeats 1000000 in
theorem sPrm_any (p : Int) (w : World) : Calls Tryd.prog 36 #[.int .i64 p] w fun e w' => e = .returned (.bool (decide (Prm p))) ∧ w' = w := by
  go_enter Tryd.func36, Tryd.ntmps36
  by_cases h1 : p = 998244353
  · subst h1
    go_wp2
    go_ret
    exact ⟨by simp, rfl⟩
  · by_cases h2 : p = 167772161
    · subst h2
      go_wp2
      go_ret
      exact ⟨by simp, rfl⟩
    · by_cases h3 : p = 469762049
      · subst h3
        go_wp2
        go_ret
        exact ⟨by simp, rfl⟩
      · go_wp2
        go_ret
        exact ⟨by simp [h1, h2, h3], rfl⟩

theorem in_any (x lo hi : Int) (w : World) : Calls Tryd.prog 47 #[.int .i64 x, .int .i64 lo, .int .i64 hi] w fun e w' => e = .returned (.bool (decide (lo ≤ x ∧ x ≤ hi))) ∧ w' = w := by
  go_enter Tryd.func47, Tryd.ntmps47
  by_cases h : lo ≤ x
  · by_cases h1 : x ≤ hi
    · go_wp2
      go_ret
      exact ⟨by simp [h, h1], rfl⟩
    · go_wp2
      go_ret
      exact ⟨by simp [h1], rfl⟩
  · go_wp2
    go_ret
    exact ⟨by simp; omega, rfl⟩


/-- What PowMod answers. -/
def pwV (a n p : Int) : Int := if Prm p ∧ (0 ≤ a ∧ a ≤ p - 1) ∧ (0 ≤ n ∧ n ≤ 4000000000000000000) then a ^ n.toNat % p else 0
theorem pwV_yes {a n p : Int} (hp : Prm p) (ha : 0 ≤ a ∧ a ≤ p - 1) (hn : 0 ≤ n ∧ n ≤ 4000000000000000000) : a ^ n.toNat % p = pwV a n p := by unfold pwV; rw [if_pos ⟨hp, ha, hn⟩]
theorem pwV_no {a n p : Int} (h : ¬ (Prm p ∧ (0 ≤ a ∧ a ≤ p - 1) ∧ (0 ≤ n ∧ n ≤ 4000000000000000000))) : 0 = pwV a n p := by unfold pwV; rw [if_neg h]

set_option maxHeartbeats 2000000 in
theorem sPow_any (a n p : Int) (w : World) : Calls Tryd.prog 48 #[.int .i64 a, .int .i64 n, .int .i64 p] w fun e w' => e = .returned (.int .i64 (pwV a n p)) ∧ w' = w := by
  have i1 := sPrm_any p
  by_cases hp : Prm p
  · rw [decide_eq_true hp] at i1
    have hpb := hp.bounds
    have i2 := in_any a 0 (p - 1)
    have i3 := in_any n 0 4000000000000000000
    by_cases ha : 0 ≤ a ∧ a ≤ p - 1
    · rw [decide_eq_true ha] at i2
      by_cases hn : 0 ≤ n ∧ n ≤ 4000000000000000000
      · rw [decide_eq_true hn] at i3
        have E : Hid (a ^ n.toNat % p = pwV a n p) := pwV_yes hp ha hn
        generalize pwV a n p = R at E
        obtain ⟨m, rfl⟩ := Int.eq_ofNat_of_zero_le hn.1
        rw [Int.toNat_natCast] at E
        clear hp
        go_enter Tryd.func48, Tryd.ntmps48
        go_wp2_with (first | (go_at_call 36; (with_reducible refine (i1 _).mono ?_); rintro e w' ⟨rfl, hw⟩; obtain rfl := hw.symm) | (go_at_call 47; (with_reducible refine (i2 _).mono ?_); rintro e w' ⟨rfl, hw⟩; obtain rfl := hw.symm) | (go_at_call 47; (with_reducible refine (i3 _).mono ?_); rintro e w' ⟨rfl, hw⟩; obtain rfl := hw.symm))
        go_loopw [0, 1, 7] (fun av nv rv wr => ∃ (A r : Int) (k : Nat), av = .int .i64 A ∧ nv = .int .i64 k ∧ rv = .int .i64 r ∧ wr = w ∧ (0 ≤ A ∧ A ≤ p - 1) ∧ (0 ≤ r ∧ r ≤ p - 1) ∧ (k : Int) ≤ 4000000000000000000 ∧ Hid (r * A ^ k % p = R)) (fun _ nv _ _ => (intOf nv).toNat)
        case atStart => exact ⟨a, 1, m, rfl, rfl, rfl, rfl, ha, by omega, hn.2, by show 1 * a ^ m % p = R; rw [Int.one_mul]; exact E.out⟩
        case round =>
          obtain ⟨A, r, k, rfl, rfl, rfl, hw, hA, hr, hk, hrel⟩ := hrel
          obtain rfl := hw.symm
          by_cases h0 : k = 0
          · subst h0
            have e0 : r = R := by
              have := hrel.out
              rw [Int.pow_zero, Int.mul_one, Int.emod_eq_of_lt hr.1 (by omega)] at this
              exact this
            go_wp2
            go_ret
            exact ⟨rfl, rfl⟩
          · have m1 := mul_lt (a := A) (b := A) (p := p) hA.1 (by omega) hA.1 (by omega) hpb.2
            have m2 := mul_lt (a := r) (b := A) (p := p) hr.1 (by omega) hA.1 (by omega) hpb.2
            have q1 := Int.emod_nonneg (A * A) (show p ≠ 0 by omega)
            have q2 := Int.emod_lt_of_pos (A * A) (show 0 < p by omega)
            have q3 := Int.emod_nonneg (r * A) (show p ≠ 0 by omega)
            have q4 := Int.emod_lt_of_pos (r * A) (show 0 < p by omega)
            by_cases h1 : k % 2 = 1
            · have hk2 : (k : Int) % 2 = 1 := by omega
              have S : Hid (r * A % p * (A * A % p) ^ (k / 2) % p = R) := by
                show r * A % p * (A * A % p) ^ (k / 2) % p = R
                rw [pow_odd, show 2 * (k / 2) + 1 = k by omega]
                exact hrel.out
              clear hrel
              go_wp2
              go_roundw
              case rel => exact ⟨A * A % p, r * A % p, k / 2, rfl, by first | rfl | (congr 1; omega), rfl, by trivial, by omega, by omega, by omega, S.out⟩
              case measure => simp [intOf]; omega
            · have hk2 : (k : Int) % 2 = 0 := by omega
              have S : Hid (r * (A * A % p) ^ (k / 2) % p = R) := by
                show r * (A * A % p) ^ (k / 2) % p = R
                rw [pow_even, show 2 * (k / 2) = k by omega]
                exact hrel.out
              clear hrel
              go_wp2
              go_roundw
              case rel => exact ⟨A * A % p, r, k / 2, rfl, by first | rfl | (congr 1; omega), rfl, by trivial, by omega, by omega, by omega, S.out⟩
              case measure => simp [intOf]; omega
      · rw [decide_eq_false hn] at i3
        have E : Hid (0 = pwV a n p) := pwV_no (fun h => hn h.2.2)
        clear hn hp
        go_enter Tryd.func48, Tryd.ntmps48
        go_wp2_with (first | (go_at_call 36; (with_reducible refine (i1 _).mono ?_); rintro e w' ⟨rfl, hw⟩; obtain rfl := hw.symm) | (go_at_call 47; (with_reducible refine (i2 _).mono ?_); rintro e w' ⟨rfl, hw⟩; obtain rfl := hw.symm) | (go_at_call 47; (with_reducible refine (i3 _).mono ?_); rintro e w' ⟨rfl, hw⟩; obtain rfl := hw.symm))
        go_ret
        exact ⟨congrArg (fun z => Ending.returned (.int .i64 z)) E.out, rfl⟩
    · rw [decide_eq_false ha] at i2
      have E : Hid (0 = pwV a n p) := pwV_no (fun h => ha h.2.1)
      clear ha hp
      go_enter Tryd.func48, Tryd.ntmps48
      go_wp2_with (first | (go_at_call 36; (with_reducible refine (i1 _).mono ?_); rintro e w' ⟨rfl, hw⟩; obtain rfl := hw.symm) | (go_at_call 47; (with_reducible refine (i2 _).mono ?_); rintro e w' ⟨rfl, hw⟩; obtain rfl := hw.symm) | (go_at_call 47; (with_reducible refine (i3 _).mono ?_); rintro e w' ⟨rfl, hw⟩; obtain rfl := hw.symm))
      go_ret
      exact ⟨congrArg (fun z => Ending.returned (.int .i64 z)) E.out, rfl⟩
  · rw [decide_eq_false hp] at i1
    have E : Hid (0 = pwV a n p) := pwV_no (fun h => hp h.1)
    clear hp
    go_enter Tryd.func48, Tryd.ntmps48
    go_wp2_with (first | (go_at_call 36; (with_reducible refine (i1 _).mono ?_); rintro e w' ⟨rfl, hw⟩; obtain rfl := hw.symm) | (go_at_call 47; (with_reducible refine (i2 _).mono ?_); rintro e w' ⟨rfl, hw⟩; obtain rfl := hw.symm) | (go_at_call 47; (with_reducible refine (i3 _).mono ?_); rintro e w' ⟨rfl, hw⟩; obtain rfl := hw.symm))
    go_ret
    exact ⟨congrArg (fun z => Ending.returned (.int .i64 z)) E.out, rfl⟩
end Go.Proofs.YtabdondefoldaaaDoor
