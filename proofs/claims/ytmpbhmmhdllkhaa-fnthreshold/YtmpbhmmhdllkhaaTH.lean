/- Threshold, both sides. -/
import Derived.Test.YtmpbhmmhdllkhaaWA
import Derived.Test.YtmpbhmmhdllkhaaQM3
import Derived.Test.YtmpbhmmhdllkhaaQM1
namespace Go.Proofs.Ytmpbhmmhdllkhaa
open Go.RowKit

/-- Chance passes no more often than allowed. -/
abbrev Alw (n c d : Nat) (t : Int) : Prop := wys n t * d ≤ c * 2 ^ n

theorem wys_top {n : Nat} {t : Int} (h : (n : Int) < t) : wys n t = 0 := by
  rw [wv_stop (m := 0) (by omega) (fun _ => by omega)]
  rfl

theorem wys_le (n : Nat) (t : Int) : wys n t ≤ 2 ^ n := wv_le n t (Nat.le_refl _)

/-- The first that does not. -/
theorem first_no (P : Nat → Prop) [DecidablePred P] : ∀ M, (∃ K, K ≤ M ∧ (∀ j, j < K → P j) ∧ ¬ P K) ∨ ∀ j, j ≤ M → P j
  | 0 => by
    by_cases h : P 0
    · exact .inr fun j hj => by obtain rfl : j = 0 := by omega
                                exact h
    · exact .inl ⟨0, by omega, fun j hj => by omega, h⟩
  | M + 1 => by
    rcases first_no P M with ⟨K, h1, h2, h3⟩ | h
    · exact .inl ⟨K, by omega, h2, h3⟩
    · by_cases h1 : P (M + 1)
      · refine .inr fun j hj => ?_
        by_cases e : j = M + 1
        · subst e; exact h1
        · exact h j (by omega)
      · exact .inl ⟨M + 1, by omega, fun j hj => h j (by omega), h1⟩

/-- Where the threshold lies. -/
theorem thr_at (n c d : Nat) : ∃ K, K ≤ 2 * n + 1 ∧ (∀ j : Nat, j < K → ¬ Alw n c d (-(n : Int) + (j : Int))) ∧ Alw n c d (-(n : Int) + (K : Int)) := by
  rcases first_no (fun j : Nat => ¬ Alw n c d (-(n : Int) + (j : Int))) (2 * n + 1) with ⟨K, h1, h2, h3⟩ | h
  · exact ⟨K, h1, h2, Decidable.of_not_not h3⟩
  · refine absurd ?_ (h (2 * n + 1) (Nat.le_refl _))
    show wys n _ * d ≤ c * 2 ^ n
    rw [wys_top (by omega), Nat.zero_mul]
    exact Nat.zero_le _

theorem chance_any (x : Int) (w : World) : Calls Try.prog 12 #[.int .i64 x] w fun e w' => e = .returned (.bool (decide (1 ≤ x ∧ x ≤ 1000))) ∧ w' = w := by
  go_enter Try.func12, Try.ntmps12
  by_cases h : 1 ≤ x
  · by_cases h1 : x ≤ 1000
    · go_wp2
      go_ret
      exact ⟨by simp [h, h1], rfl⟩
    · go_wp2
      go_ret
      exact ⟨by simp [h1], rfl⟩
  · go_wp2
    go_ret
    exact ⟨by simp; omega, rfl⟩

theorem two_words (X Y : Nat) : X ≤ Y ↔ X / 18446744073709551616 < Y / 18446744073709551616 ∨ (X / 18446744073709551616 = Y / 18446744073709551616 ∧ X % 18446744073709551616 ≤ Y % 18446744073709551616) := by omega

set_option maxHeartbeats 2000000 in
theorem allowed_any (X n c d : Nat) (hX : X ≤ 1152921504606846976) (hn : n ≤ 60) (hc : c ≤ 1000) (hd : d ≤ 1000) (w : World) :
    Calls Try.prog 13 #[.int .i64 (X : Int), .int .i64 (n : Int), .int .i64 (c : Int), .int .i64 (d : Int)] w fun e w' => e = .returned (.bool (decide (X * d ≤ c * 2 ^ n))) ∧ w' = w := by
  have h2 := two60 hn
  obtain ⟨E, hE⟩ : ∃ E : Nat, E = 2 ^ n := ⟨_, rfl⟩
  rw [← hE] at h2 ⊢
  have e1 : (2 : Int) ^ n = (E : Int) := by rw [hE, Int.natCast_pow]; rfl
  clear hE
  have i1 := Q.mul64_any X d
  have i2 := Q.mul64_any c E
  have key := two_words (X * d) (c * E)
  have b1 : X * d / 18446744073709551616 < 18446744073709551616 := Nat.lt_of_le_of_lt (Nat.div_le_div_right (Nat.mul_le_mul hX hd)) (by decide)
  have b2 : c * E / 18446744073709551616 < 18446744073709551616 := Nat.lt_of_le_of_lt (Nat.div_le_div_right (Nat.mul_le_mul hc h2)) (by decide)
  have b3 := Nat.mod_lt (X * d) (show 0 < 18446744073709551616 by decide)
  have b4 := Nat.mod_lt (c * E) (show 0 < 18446744073709551616 by decide)
  obtain ⟨D, hD⟩ : ∃ D, D = decide (X * d ≤ c * E) := ⟨_, rfl⟩
  rw [← hD]
  generalize X * d / 18446744073709551616 = x1 at *
  generalize X * d % 18446744073709551616 = x0 at *
  generalize c * E / 18446744073709551616 = y1 at *
  generalize c * E % 18446744073709551616 = y0 at *
  by_cases g1 : x1 < y1
  · obtain rfl : D = true := by rw [hD]; exact decide_eq_true (key.2 (.inl g1))
    clear hD key
    go_enter Try.func13, Try.ntmps13
    go_wp2_with (first | (go_at_call 21; (with_reducible refine (i1 _ (by omega) (by omega)).mono ?_); rintro e w' ⟨rfl, hw⟩; obtain rfl := hw.symm) | (go_at_call 21; (with_reducible refine (i2 _ (by omega) (by omega)).mono ?_); rintro e w' ⟨rfl, hw⟩; obtain rfl := hw.symm))
    go_ret
    exact ⟨rfl, rfl⟩
  · by_cases g2 : x1 = y1
    · subst g2
      by_cases g3 : x0 ≤ y0
      · obtain rfl : D = true := by rw [hD]; exact decide_eq_true (key.2 (.inr ⟨rfl, g3⟩))
        clear hD key
        go_enter Try.func13, Try.ntmps13
        go_wp2_with (first | (go_at_call 21; (with_reducible refine (i1 _ (by omega) (by omega)).mono ?_); rintro e w' ⟨rfl, hw⟩; obtain rfl := hw.symm) | (go_at_call 21; (with_reducible refine (i2 _ (by omega) (by omega)).mono ?_); rintro e w' ⟨rfl, hw⟩; obtain rfl := hw.symm))
        go_ret
        exact ⟨rfl, rfl⟩
      · obtain rfl : D = false := by rw [hD]; exact decide_eq_false (fun h => by rcases key.1 h with h | h <;> omega)
        clear hD key
        go_enter Try.func13, Try.ntmps13
        go_wp2_with (first | (go_at_call 21; (with_reducible refine (i1 _ (by omega) (by omega)).mono ?_); rintro e w' ⟨rfl, hw⟩; obtain rfl := hw.symm) | (go_at_call 21; (with_reducible refine (i2 _ (by omega) (by omega)).mono ?_); rintro e w' ⟨rfl, hw⟩; obtain rfl := hw.symm))
        go_ret
        exact ⟨rfl, rfl⟩
    · obtain rfl : D = false := by rw [hD]; exact decide_eq_false (fun h => by rcases key.1 h with h | h <;> omega)
      clear hD key
      go_enter Try.func13, Try.ntmps13
      go_wp2_with (first | (go_at_call 21; (with_reducible refine (i1 _ (by omega) (by omega)).mono ?_); rintro e w' ⟨rfl, hw⟩; obtain rfl := hw.symm) | (go_at_call 21; (with_reducible refine (i2 _ (by omega) (by omega)).mono ?_); rintro e w' ⟨rfl, hw⟩; obtain rfl := hw.symm))
      go_ret
      exact ⟨rfl, rfl⟩
end Go.Proofs.Ytmpbhmmhdllkhaa
