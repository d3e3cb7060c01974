/- The program's small functions of rounding: which way, against a half, too great. -/
import Derived.Test.YtcpnmcfpnhokgaaDoorR1
import Derived.Test.YtcpnmcfpnhokgaaDoorP1
namespace Go.Proofs.YtcpnmcfpnhokgaaDoor
open Go.RowKit

set_option maxHeartbeats 1000000 in
theorem roundsUp_any (mode half : Int) (neg odd : Bool) (w : World) :
    Calls Tryd.prog 99 #[.int .i64 mode, .bool neg, .bool odd, .int .i64 half] w fun e w' => e = .returned (.bool (upOf mode neg odd half true)) ∧ w' = w := by
  unfold upOf
  by_cases m1 : mode = 1
  · subst m1
    rw [if_pos rfl]
    rcases Int.lt_trichotomy half 0 with h | rfl | h
    · have h0 : (half == 0) = false := by simp; omega
      have h1 : ¬ 0 < half := by omega
      go_enter Tryd.func99, Tryd.ntmps99
      go_wp2
      go_ret
      refine ⟨?_, rfl⟩
      simp
      omega
    · go_enter Tryd.func99, Tryd.ntmps99
      go_wp2
      go_ret
      exact ⟨by simp, rfl⟩
    · go_enter Tryd.func99, Tryd.ntmps99
      go_wp2
      go_ret
      refine ⟨?_, rfl⟩
      simp [h]
  rw [if_neg m1]
  have b1 : (mode == 1) = false := by simpa using m1
  by_cases m2 : mode = 2
  · subst m2
    rw [if_pos rfl]
    go_enter Tryd.func99, Tryd.ntmps99
    go_wp2
    go_ret
    exact ⟨rfl, rfl⟩
  rw [if_neg m2]
  have b2 : (mode == 2) = false := by simpa using m2
  by_cases m4 : mode = 4
  · subst m4
    rw [if_pos rfl]
    go_enter Tryd.func99, Tryd.ntmps99
    go_wp2
    go_ret
    exact ⟨by simp, rfl⟩
  rw [if_neg m4]
  have b4 : (mode == 4) = false := by simpa using m4
  by_cases m5 : mode = 5
  · subst m5
    rw [if_pos rfl]
    go_enter Tryd.func99, Tryd.ntmps99
    go_wp2
    go_ret
    exact ⟨by simp, rfl⟩
  rw [if_neg m5]
  have b5 : (mode == 5) = false := by simpa using m5
  clear m1 m2 m4 m5
  go_enter Tryd.func99, Tryd.ntmps99
  go_wp2
  go_ret
  exact ⟨rfl, rfl⟩

theorem compare_u64 (a b : Nat) (w : World) : Calls Tryd.prog 101 #[.int .u64 (a : Int), .int .u64 (b : Int)] w fun e w' => e = .returned (.int .i64 (cmpOf a b)) ∧ w' = w := by
  unfold cmpOf
  rcases Nat.lt_trichotomy a b with h | rfl | h
  · have h1 : (a : Int) < b := by omega
    rw [if_pos h]
    go_enter Tryd.func101, Tryd.ntmps101
    go_wp2_with (go_at_call 102; go_in)
    go_ret
    exact ⟨rfl, rfl⟩
  · rw [if_neg (by omega), if_pos rfl]
    go_enter Tryd.func101, Tryd.ntmps101
    go_wp2_with (go_at_call 102; go_in)
    go_ret
    exact ⟨rfl, rfl⟩
  · have h1 : ¬ (a : Int) < b := by omega
    have h2 : (b : Int) < a := by omega
    rw [if_neg (by omega), if_neg (by omega)]
    go_enter Tryd.func101, Tryd.ntmps101
    go_wp2_with (go_at_call 102; go_in)
    go_ret
    exact ⟨rfl, rfl⟩

theorem againstHalf_any (R : Nat) (D : Int) (hR : R < 18446744073709551616) (h0 : 1 ≤ D) (h1 : D ≤ 400000) (w : World) :
    Calls Tryd.prog 100 #[.int .u64 (R : Int), .int .i64 D] w fun e w' => e = .returned (.int .i64 (cmpOf R (2 ^ (D.toNat - 1)))) ∧ w' = w := by
  by_cases h64 : 64 < D
  · have e : cmpOf R (2 ^ (D.toNat - 1)) = -1 := by
      unfold cmpOf
      rw [if_pos (Nat.lt_of_lt_of_le hR (Nat.pow_le_pow_right (n := 2) (by decide) (show 64 ≤ D.toNat - 1 by omega)))]
    rw [e]
    go_enter Tryd.func100, Tryd.ntmps100
    go_wp2
    go_ret
    exact ⟨rfl, rfl⟩
  · have e : (2 : Int) ^ (D.toNat - 1) = ((2 ^ (D.toNat - 1) : Nat) : Int) := by rw [Int.natCast_pow]; rfl
    have hw : IntKind.u64.wrap ((2 : Int) ^ (D.toNat - 1)) = (2 : Int) ^ (D.toNat - 1) := by
      have : (2 : Nat) ^ (D.toNat - 1) ≤ 2 ^ 63 := Nat.pow_le_pow_right (by decide) (by omega)
      rw [e, IntKind.wrap_u64]
      generalize 2 ^ (D.toNat - 1) = z at *
      omega
    have hc := fun w => compare_u64 R (2 ^ (D.toNat - 1)) w
    rw [← e] at hc
    clear e
    go_enter Tryd.func100, Tryd.ntmps100
    go_wp2_with (go_at_call 101; refine (hc _).mono ?_; rintro e w' ⟨rfl, rfl⟩)
    go_ret
    exact ⟨rfl, rfl⟩

set_option maxHeartbeats 2000000 in
theorem overflow_any {f wd p t S D h q : Int} (hF : Frm f wd p t S D h q) (mode : Int) (neg : Bool) (w : World) :
    Calls Tryd.prog 96 #[.agg #[.int .i64 wd, .int .i64 p, .int .i64 t], .int .i64 mode, .bool neg] w fun e w' => e = .returned (.tuple #[.int .u64 (oOf mode ((2 * t + 1) * h) neg + (if neg then S else 0)), .int .i64 5]) ∧ Below w.heap.size w w' := by
  have hI := fun w => infinity_any hF w
  have hi : 1 ≤ (2 * t + 1) * h ∧ (2 * t + 1) * h < S ∧ S ≤ 9223372036854775808 := by
    rcases hF with ⟨rfl, rfl, rfl, rfl, rfl, rfl, rfl, rfl⟩ | ⟨rfl, rfl, rfl, rfl, rfl, rfl, rfl, rfl⟩ | ⟨rfl, rfl, rfl, rfl, rfl, rfl, rfl, rfl⟩ <;> decide
  have hG : ∀ (s : Int) (w : World), 0 ≤ s → s < S → Calls Tryd.prog 77 #[.agg #[.int .i64 wd, .int .i64 p, .int .i64 t], .bool neg, .int .u64 s] w fun e w' => e = .returned (.int .u64 (s + (if neg then S else 0))) ∧ Below w.heap.size w w' := fun s w h0 h1 => by
    have := signed_any hF neg s w h0 h1
    cases neg
    · simpa using this
    · simpa using this
  obtain ⟨hi0, hi1, hi2⟩ := hi
  clear hF
  generalize (2 * t + 1) * h = i at *
  generalize (if neg = true then S else 0) = sg at *
  have HFN : Hid (∀ x : Int, x = oOf mode i neg → Ending.returned (.tuple #[.int .u64 (x + sg), .int .i64 5]) = Ending.returned (.tuple #[.int .u64 (oOf mode i neg + sg), .int .i64 5])) := fun x hx => by rw [hx]
  by_cases m3 : mode = 3
  · subst m3
    go_enter Tryd.func96, Tryd.ntmps96
    go_wp2_with (first | (go_at_call 36; with_reducible refine (hI _).mono ?_; rintro e w' ⟨rfl, rfl⟩) | (go_at_call 77; refine (hG _ _ (by omega) (by omega)).mono ?_; rintro e w' ⟨rfl, hb⟩))
    go_ret2
    exact ⟨HFN.out _ (by unfold oOf; simp), (below_two _ _).trans (hb.mono (below_two _ _).size)⟩
  have b3 : (mode == 3) = false := by simpa using m3
  by_cases m4 : mode = 4
  · subst m4
    cases neg
    all_goals
      go_enter Tryd.func96, Tryd.ntmps96
      go_wp2_with (first | (go_at_call 36; with_reducible refine (hI _).mono ?_; rintro e w' ⟨rfl, rfl⟩) | (go_at_call 77; refine (hG _ _ (by omega) (by omega)).mono ?_; rintro e w' ⟨rfl, hb⟩))
      go_ret2
      exact ⟨HFN.out _ (by unfold oOf; simp), (below_two _ _).trans (hb.mono (below_two _ _).size)⟩
  have b4 : (mode == 4) = false := by simpa using m4
  by_cases m5 : mode = 5
  · subst m5
    cases neg
    all_goals
      go_enter Tryd.func96, Tryd.ntmps96
      go_wp2_with (first | (go_at_call 36; with_reducible refine (hI _).mono ?_; rintro e w' ⟨rfl, rfl⟩) | (go_at_call 77; refine (hG _ _ (by omega) (by omega)).mono ?_; rintro e w' ⟨rfl, hb⟩))
      go_ret2
      exact ⟨HFN.out _ (by unfold oOf; simp), (below_two _ _).trans (hb.mono (below_two _ _).size)⟩
  have b5 : (mode == 5) = false := by simpa using m5
  have HO : Hid (i = oOf mode i neg) := by
    show i = oOf mode i neg
    unfold oOf
    rw [if_neg (by simp [m3, m4, m5])]
  clear m3 m4 m5
  go_enter Tryd.func96, Tryd.ntmps96
  go_wp2_with (first | (go_at_call 36; with_reducible refine (hI _).mono ?_; rintro e w' ⟨rfl, rfl⟩) | (go_at_call 77; refine (hG _ _ (by omega) (by omega)).mono ?_; rintro e w' ⟨rfl, hb⟩))
  go_ret2
  exact ⟨HFN.out _ HO.out, (below_two _ _).trans (hb.mono (below_two _ _).size)⟩
end Go.Proofs.YtcpnmcfpnhokgaaDoor
