/- The program's small functions of rounding: which way, against a half, too great. -/
import Derived.Test.YtghblaphkbcgpaaDoorHW2
import Derived.Test.YtghblaphkbcgpaaDoorP1
import Derived.Deep.Cut
namespace Go.Proofs.YtghblaphkbcgpaaDoor
open Go.RowKit

set_option maxHeartbeats 1000000 in
theorem roundsUp_any (mode half : Int) (neg odd : Bool) (w : World) :
    Calls Tryd.prog 59 #[.int .i64 mode, .bool neg, .bool odd, .int .i64 half] w fun e w' => e = .returned (.bool (upOf mode neg odd half true)) ∧ w' = w := by
  unfold upOf
  by_cases m1 : mode = 1
  · subst m1
    rw [if_pos rfl]
    rcases Int.lt_trichotomy half 0 with h | rfl | h
    · have h0 : (half == 0) = false := by simp; omega
      have h1 : ¬ 0 < half := by omega
      go_enter Tryd.func59, Tryd.ntmps59
      go_wp2
      go_ret
      refine ⟨?_, rfl⟩
      simp
      omega
    · go_enter Tryd.func59, Tryd.ntmps59
      go_wp2
      go_ret
      exact ⟨by simp, rfl⟩
    · go_enter Tryd.func59, Tryd.ntmps59
      go_wp2
      go_ret
      refine ⟨?_, rfl⟩
      simp [h]
  rw [if_neg m1]
  have b1 : (mode == 1) = false := by simpa using m1
  by_cases m2 : mode = 2
  · subst m2
    rw [if_pos rfl]
    go_enter Tryd.func59, Tryd.ntmps59
    go_wp2
    go_ret
    exact ⟨rfl, rfl⟩
  rw [if_neg m2]
  have b2 : (mode == 2) = false := by simpa using m2
  by_cases m4 : mode = 4
  · subst m4
    rw [if_pos rfl]
    go_enter Tryd.func59, Tryd.ntmps59
    go_wp2
    go_ret
    exact ⟨by simp, rfl⟩
  rw [if_neg m4]
  have b4 : (mode == 4) = false := by simpa using m4
  by_cases m5 : mode = 5
  · subst m5
    rw [if_pos rfl]
    go_enter Tryd.func59, Tryd.ntmps59
    go_wp2
    go_ret
    exact ⟨by simp, rfl⟩
  rw [if_neg m5]
  have b5 : (mode == 5) = false := by simpa using m5
  clear m1 m2 m4 m5
  go_enter Tryd.func59, Tryd.ntmps59
  go_wp2
  go_ret
  exact ⟨rfl, rfl⟩

theorem compare_u64 (a b : Nat) (w : World) : Calls Tryd.prog 61 #[.int .u64 (a : Int), .int .u64 (b : Int)] w fun e w' => e = .returned (.int .i64 (cmpOf a b)) ∧ w' = w := by
  unfold cmpOf
  rcases Nat.lt_trichotomy a b with h | rfl | h
  · have h1 : (a : Int) < b := by omega
    rw [if_pos h]
    go_enter Tryd.func61, Tryd.ntmps61
    go_wp2_with (go_at_call 62; go_in)
    go_ret
    exact ⟨rfl, rfl⟩
  · rw [if_neg (by omega), if_pos rfl]
    go_enter Tryd.func61, Tryd.ntmps61
    go_wp2_with (go_at_call 62; go_in)
    go_ret
    exact ⟨rfl, rfl⟩
  · have h1 : ¬ (a : Int) < b := by omega
    have h2 : (b : Int) < a := by omega
    rw [if_neg (by omega), if_neg (by omega)]
    go_enter Tryd.func61, Tryd.ntmps61
    go_wp2_with (go_at_call 62; go_in)
    go_ret
    exact ⟨rfl, rfl⟩

theorem againstHalf_any (R : Nat) (D : Int) (hR : R < 18446744073709551616) (h0 : 1 ≤ D) (h1 : D ≤ 400000) (w : World) :
    Calls Tryd.prog 60 #[.int .u64 (R : Int), .int .i64 D] w fun e w' => e = .returned (.int .i64 (cmpOf R (2 ^ (D.toNat - 1)))) ∧ w' = w := by
  by_cases h64 : 64 < D
  · have e : cmpOf R (2 ^ (D.toNat - 1)) = -1 := by
      unfold cmpOf
      rw [if_pos (Nat.lt_of_lt_of_le hR (Nat.pow_le_pow_right (n := 2) (by decide) (show 64 ≤ D.toNat - 1 by omega)))]
    rw [e]
    go_enter Tryd.func60, Tryd.ntmps60
    go_wp2
    go_ret
    exact ⟨rfl, rfl⟩
  · have e : (2 : Int) ^ (D.toNat - 1) = ((2 ^ (D.toNat - 1) : Nat) : Int) := by rw [Int.natCast_pow]; rfl
    have hw : IntKind.u64.wrap ((2 : Int) ^ (D.toNat - 1)) = (2 : Int) ^ (D.toNat - 1) := by
      have : (2 : Nat) ^ (D.toNat - 1) ≤ 2 ^ 63 := Nat.pow_le_pow_right (by decide) (by omega)
      rw [e, IntKind.wrap_u64]
      generalize 2 ^ (D.toNat - 1) = z at *
      omega
    have hc := fun w => compare_u64 R (2 ^ (D.toNat - 1)) w
    rw [← e] at hc
    clear e
    go_enter Tryd.func60, Tryd.ntmps60
    go_wp2_with (go_at_call 61; refine (hc _).mono ?_; rintro e w' ⟨rfl, rfl⟩)
    go_ret
    exact ⟨rfl, rfl⟩

set_option maxHeartbeats 2000000 in
theorem overflow_any {f wd p t S D h q : Int} (hF : Frm f wd p t S D h q) (mode : Int) (neg : Bool) (w : World) :
    Calls Tryd.prog 58 #[.agg #[.int .i64 wd, .int .i64 p, .int .i64 t], .int .i64 mode, .bool neg] w fun e w' => e = .returned (.tuple #[.int .u64 (oOf mode ((2 * t + 1) * h) neg + (if neg then S else 0)), .int .i64 5]) ∧ Below w.heap.size w w' := by
  have hI := fun w => infinity_any hF w
  have hi : 1 ≤ (2 * t + 1) * h ∧ (2 * t + 1) * h < S ∧ S ≤ 9223372036854775808 := by
    rcases hF with ⟨rfl, rfl, rfl, rfl, rfl, rfl, rfl, rfl⟩ | ⟨rfl, rfl, rfl, rfl, rfl, rfl, rfl, rfl⟩ | ⟨rfl, rfl, rfl, rfl, rfl, rfl, rfl, rfl⟩ <;> decide
  have hG : ∀ (s : Int) (w : World), 0 ≤ s → s < S → Calls Tryd.prog 50 #[.agg #[.int .i64 wd, .int .i64 p, .int .i64 t], .bool neg, .int .u64 s] w fun e w' => e = .returned (.int .u64 (s + (if neg then S else 0))) ∧ Below w.heap.size w w' := fun s w h0 h1 => by
    have := signed_any hF neg s w h0 h1
    cases neg
    · simpa using this
    · simpa using this
  obtain ⟨hi0, hi1, hi2⟩ := hi
  clear hF
  generalize (2 * t + 1) * h = i at *
  generalize (if neg = true then S else 0) = sg at *
  have HFN : Hid (∀ x : Int, x = oOf mode i neg → Ending.returned (.tuple #[.int .u64 (x + sg), .int .i64 5]) = Ending.returned (.tuple #[.int .u64 (oOf mode i neg + sg), .int .i64 5])) := fun x hx => by rw [hx]
  by_cases m3 : mode = 3
  · subst m3
    go_enter Tryd.func58, Tryd.ntmps58
    go_wp2_with (first | (go_at_call 46; with_reducible refine (hI _).mono ?_; rintro e w' ⟨rfl, rfl⟩) | (go_at_call 50; refine (hG _ _ (by omega) (by omega)).mono ?_; rintro e w' ⟨rfl, hb⟩))
    go_ret2
    exact ⟨HFN.out _ (by unfold oOf; simp), (below_two _ _).trans (hb.mono (below_two _ _).size)⟩
  have b3 : (mode == 3) = false := by simpa using m3
  by_cases m4 : mode = 4
  · subst m4
    cases neg
    all_goals
      go_enter Tryd.func58, Tryd.ntmps58
      go_wp2_with (first | (go_at_call 46; with_reducible refine (hI _).mono ?_; rintro e w' ⟨rfl, rfl⟩) | (go_at_call 50; refine (hG _ _ (by omega) (by omega)).mono ?_; rintro e w' ⟨rfl, hb⟩))
      go_ret2
      exact ⟨HFN.out _ (by unfold oOf; simp), (below_two _ _).trans (hb.mono (below_two _ _).size)⟩
  have b4 : (mode == 4) = false := by simpa using m4
  by_cases m5 : mode = 5
  · subst m5
    cases neg
    all_goals
      go_enter Tryd.func58, Tryd.ntmps58
      go_wp2_with (first | (go_at_call 46; with_reducible refine (hI _).mono ?_; rintro e w' ⟨rfl, rfl⟩) | (go_at_call 50; refine (hG _ _ (by omega) (by omega)).mono ?_; rintro e w' ⟨rfl, hb⟩))
      go_ret2
      exact ⟨HFN.out _ (by unfold oOf; simp), (below_two _ _).trans (hb.mono (below_two _ _).size)⟩
  have b5 : (mode == 5) = false := by simpa using m5
  have HO : Hid (i = oOf mode i neg) := by
    show i = oOf mode i neg
    unfold oOf
    rw [if_neg (by simp [m3, m4, m5])]
  clear m3 m4 m5
  go_enter Tryd.func58, Tryd.ntmps58
  go_wp2_with (first | (go_at_call 46; with_reducible refine (hI _).mono ?_; rintro e w' ⟨rfl, rfl⟩) | (go_at_call 50; refine (hG _ _ (by omega) (by omega)).mono ?_; rintro e w' ⟨rfl, hb⟩))
  go_ret2
  exact ⟨HFN.out _ HO.out, (below_two _ _).trans (hb.mono (below_two _ _).size)⟩
end Go.Proofs.YtghblaphkbcgpaaDoor

/- The program's roundTo. -/
namespace Go.Proofs.YtghblaphkbcgpaaDoor
open Go.RowKit

theorem up_none (mode : Int) (neg odd : Bool) : upOf mode neg odd (-1) false = false := by
  unfold upOf
  repeat' split
  all_goals simp_all

/-- What roundTo tells behind the shift: kp, what is kept; lo, what is lost. -/
theorem kept_of {mode : Int} {neg : Bool} {M : Nat} {d : Int} (hd : 1 ≤ d) (kp lo : Nat) (hk : kp = mOf M d) (hl : lo = rOf M d) :
    sOf M d false = decide (0 < lo) ∧ (lo = 0 → kOf mode neg M d false = kp) ∧ (0 < lo → kOf mode neg M d false = kp + (if upOf mode neg (kp % 2 == 1) (cmpOf lo (2 ^ (d.toNat - 1))) true then 1 else 0)) := by
  have hs : sOf M d false = decide (0 < lo) := by unfold sOf; rw [hl]; simp
  have hh : hOf M d false = cmpOf lo (2 ^ (d.toNat - 1)) := by
    unfold hOf
    rw [if_neg (by omega), hl]
    simp
  refine ⟨hs, fun h0 => ?_, fun h0 => ?_⟩
  · unfold kOf
    rw [hs, hh, h0, ← hk]
    have : cmpOf 0 (2 ^ (d.toNat - 1)) = -1 := by unfold cmpOf; rw [if_pos (Nat.pow_pos (by decide))]
    rw [this, show decide (0 < 0) = false by decide, up_none]
    simp
  · unfold kOf
    rw [hs, hh, ← hk, show decide (0 < lo) = true by simpa using h0]

set_option maxHeartbeats 2000000 in
theorem roundTo_any (mode K E u : Int) (neg : Bool) (M : Nat) (w : World) (hM0 : 0 < M) (hM : M < 18446744073709551616) (hE0 : -200000 ≤ E) (hE1 : E ≤ 200000) (hu0 : -200000 ≤ u) (hu1 : u ≤ 200000) (hlt : mOf M (u - E) < 9223372036854775808) :
    Calls Tryd.prog 57 #[.int .i64 mode, .agg #[.int .i64 K, .bool neg, .int .i64 E, .int .u64 (M : Int)], .int .i64 u] w fun e w' => e = .returned (.tuple #[.int .u64 (kOf mode neg M (u - E) false : Nat), .bool (!sOf M (u - E) false)]) ∧ Below w.heap.size w w' := by
  by_cases hd : u - E ≤ 0
  · have hs : sOf M (u - E) false = false := by unfold sOf rOf; rw [if_pos hd]; simp
    have hh : hOf M (u - E) false = -1 := by unfold hOf; rw [if_pos hd]
    have hk : kOf mode neg M (u - E) false = M * 2 ^ (-(u - E)).toNat := by
      unfold kOf
      rw [hh, hs, up_none]
      unfold mOf
      rw [if_pos hd]
      simp
    unfold mOf at hlt
    rw [if_pos hd] at hlt
    rw [hs, hk]
    have h64 : -(u - E) ≤ 64 := by
      rcases Int.lt_or_le 64 (-(u - E)) with h | h
      · exfalso
        have h1 : (2 : Nat) ^ 64 ≤ 2 ^ (-(u - E)).toNat := Nat.pow_le_pow_right (by decide) (by omega)
        have h2 : 1 * 2 ^ (-(u - E)).toNat ≤ M * 2 ^ (-(u - E)).toNat := Nat.mul_le_mul_right _ hM0
        omega
      · exact h
    have HE : Hid (IntKind.u64.wrap ((M : Int) * 2 ^ (-(u - E)).toNat) = ((M * 2 ^ (-(u - E)).toNat : Nat) : Int)) := by
      have e : ((M : Int) * 2 ^ (-(u - E)).toNat) = ((M * 2 ^ (-(u - E)).toNat : Nat) : Int) := by rw [Int.natCast_mul, Int.natCast_pow]; rfl
      show IntKind.u64.wrap _ = _
      rw [e, IntKind.wrap_u64]
      omega
    clear hs hh hk hlt
    go_enter Tryd.func57, Tryd.ntmps57
    go_wp2
    go_ret2
    refine ⟨?_, below_one _⟩
    rw [← HE.out]
    rfl
  · have hd1 : 0 ≤ u - E := by omega
    obtain ⟨kp, hkp⟩ : ∃ kp, kp = mOf M (u - E) := ⟨_, rfl⟩
    obtain ⟨lo, hlo⟩ : ∃ lo, lo = rOf M (u - E) := ⟨_, rfl⟩
    obtain ⟨k1, k2, k3⟩ := kept_of (mode := mode) (neg := neg) (show 1 ≤ u - E by omega) kp lo hkp hlo
    rw [k1]
    have hdm : M = kp * 2 ^ (u - E).toNat + lo := by
      rw [hkp, hlo]
      unfold mOf rOf
      rw [if_neg hd, if_neg hd]
      have := Nat.div_add_mod M (2 ^ (u - E).toNat)
      rw [Nat.mul_comm] at this
      omega
    have hkd : kp = M / 2 ^ (u - E).toNat := by rw [hkp]; unfold mOf; rw [if_neg hd]
    have hkl : kp < 9223372036854775808 := by rw [hkp]; exact hlt
    have hlo2 : lo < 18446744073709551616 := by omega
    have hA := fun w => againstHalf_any lo (u - E) hlo2 (by omega) (by omega) w
    have hb : bits .and .u64 (kp : Int) 1 = ((kp % 2 : Nat) : Int) := by
      have := u64_and_nat kp 1 (by omega) (by decide)
      rw [Nat.and_one_is_mod] at this
      exact this
    have K2 : Hid _ := k2
    have K3 : Hid _ := k3
    clear k1 k2 k3 hkp hlo hlt
    by_cases h64 : u - E ≤ 64
    · have e1 : (M : Int) / 2 ^ (u - E).toNat = (kp : Int) := by
        rw [hkd, Int.natCast_ediv, Int.natCast_pow]
        rfl
      have e2 : IntKind.u64.wrap ((kp : Int) * 2 ^ (u - E).toNat) = ((M - lo : Nat) : Int) := by
        have e : ((kp : Int) * 2 ^ (u - E).toNat) = ((kp * 2 ^ (u - E).toNat : Nat) : Int) := by rw [Int.natCast_mul, Int.natCast_pow]; rfl
        rw [e, IntKind.wrap_u64]
        omega
      have hle : lo ≤ M := by omega
      obtain ⟨ml, hml⟩ : ∃ ml, ml = M - lo := ⟨_, rfl⟩
      rw [← hml] at e2
      have e3 : (M : Int) - (ml : Int) = lo := by omega
      have hml2 : ml ≤ M := by omega
      clear hdm hkd hml
      by_cases hl0 : lo = 0
      · subst hl0
        have HK : Hid (kOf mode neg M (u - E) false = kp) := K2.out rfl
        go_enter Tryd.func57, Tryd.ntmps57
        go_wp2
        go_quiet (fail)
        go_wp2
        go_ret2
        refine ⟨?_, below_drewN (below_one _) _⟩
        rw [HK.out]
        rfl
      · have HK : Hid (kOf mode neg M (u - E) false = kp + (if upOf mode neg (kp % 2 == 1) (cmpOf lo (2 ^ ((u - E).toNat - 1))) true then 1 else 0)) := K3.out (by omega)
        have hlb : ((lo : Int) == 0) = false := by simp; omega
        have hob : (((kp % 2 : Nat) : Int) == 1) = (kp % 2 == 1) := by
          rcases Nat.mod_two_eq_zero_or_one kp with h | h <;> rw [h] <;> rfl
        have HL : Hid (decide (0 < lo) = true) := by show decide (0 < lo) = true; simp; omega
        rw [HL.out]
        have hU := fun w => roundsUp_any mode (cmpOf lo (2 ^ ((u - E).toNat - 1))) neg (kp % 2 == 1) w
        generalize cmpOf lo (2 ^ ((u - E).toNat - 1)) = cc at *
        generalize kp % 2 = kb at *
        generalize upOf mode neg (kb == 1) cc true = up at *
        cases up
        · go_enter Tryd.func57, Tryd.ntmps57
          go_wp2
          go_quiet (fail)
          go_wp2
          go_quiet (first | (go_at_call 60; refine (hA _).mono ?_; rintro e w' ⟨rfl, rfl⟩; exact ⟨rfl, _, rfl⟩) | (go_at_call 59; refine (hU _).mono ?_; rintro e w' ⟨rfl, rfl⟩; exact ⟨rfl, _, rfl⟩))
          go_wp2
          go_ret2
          refine ⟨?_, by first | exact below_drewN (below_drewN (below_one _) _) _ | exact below_drewN (below_one _) _⟩
          rw [HK.out]
          rfl
        · go_enter Tryd.func57, Tryd.ntmps57
          go_wp2
          go_quiet (fail)
          go_wp2
          go_quiet (first | (go_at_call 60; refine (hA _).mono ?_; rintro e w' ⟨rfl, rfl⟩; exact ⟨rfl, _, rfl⟩) | (go_at_call 59; refine (hU _).mono ?_; rintro e w' ⟨rfl, rfl⟩; exact ⟨rfl, _, rfl⟩))
          go_wp2
          go_ret2
          refine ⟨?_, by first | exact below_drewN (below_drewN (below_one _) _) _ | exact below_drewN (below_one _) _⟩
          rw [HK.out]
          rfl
    · have hp : (18446744073709551616 : Nat) ≤ 2 ^ (u - E).toNat := Nat.le_trans (show 18446744073709551616 ≤ 2 ^ 64 by decide) (Nat.pow_le_pow_right (by decide) (by omega))
      have hkz : kp = 0 := by rw [hkd]; exact Nat.div_eq_of_lt (by omega)
      have hlm : M = lo := by rw [hkz] at hdm; omega
      have hmin : min (u - E).toNat 64 = 64 := by omega
      have q1 : Op.shift .shr .u64 (lo : Int) .i64 (u - E) = pure (.int .u64 (kp : Int)) := by
        rw [shift_shr_any _ _ _ _ hd1, show IntKind.u64.bits = 64 from rfl, hmin, hkz]
        congr 2
        omega
      have q2 : Op.shift .shl .u64 (kp : Int) .i64 (u - E) = pure (.int .u64 0) := by
        rw [shift_shl_any _ _ _ _ hd1, hkz, show ((0 : Nat) : Int) * 2 ^ min (u - E).toNat IntKind.u64.bits = 0 by simp]
        rfl
      subst hlm
      clear hdm hkd hp hkz
      have hl0 : ¬ M = 0 := by omega
      have HK : Hid (kOf mode neg M (u - E) false = kp + (if upOf mode neg (kp % 2 == 1) (cmpOf M (2 ^ ((u - E).toNat - 1))) true then 1 else 0)) := K3.out (by omega)
      have hlb : ((M : Int) == 0) = false := by simp; omega
      have hob : (((kp % 2 : Nat) : Int) == 1) = (kp % 2 == 1) := by
        rcases Nat.mod_two_eq_zero_or_one kp with h | h <;> rw [h] <;> rfl
      have HL : Hid (decide (0 < M) = true) := by show decide (0 < M) = true; simp; omega
      rw [HL.out]
      have hU := fun w => roundsUp_any mode (cmpOf M (2 ^ ((u - E).toNat - 1))) neg (kp % 2 == 1) w
      generalize cmpOf M (2 ^ ((u - E).toNat - 1)) = cc at *
      generalize kp % 2 = kb at *
      generalize upOf mode neg (kb == 1) cc true = up at *
      cases up
      · go_enter Tryd.func57, Tryd.ntmps57
        go_wp2
        go_quiet (fail)
        go_wp2
        go_quiet (first | (go_at_call 60; refine (hA _).mono ?_; rintro e w' ⟨rfl, rfl⟩; exact ⟨rfl, _, rfl⟩) | (go_at_call 59; refine (hU _).mono ?_; rintro e w' ⟨rfl, rfl⟩; exact ⟨rfl, _, rfl⟩))
        go_wp2
        go_ret2
        refine ⟨?_, by first | exact below_drewN (below_drewN (below_one _) _) _ | exact below_drewN (below_one _) _⟩
        rw [HK.out]
        rfl
      · go_enter Tryd.func57, Tryd.ntmps57
        go_wp2
        go_quiet (fail)
        go_wp2
        go_quiet (first | (go_at_call 60; refine (hA _).mono ?_; rintro e w' ⟨rfl, rfl⟩; exact ⟨rfl, _, rfl⟩) | (go_at_call 59; refine (hU _).mono ?_; rintro e w' ⟨rfl, rfl⟩; exact ⟨rfl, _, rfl⟩))
        go_wp2
        go_ret2
        refine ⟨?_, by first | exact below_drewN (below_drewN (below_one _) _) _ | exact below_drewN (below_one _) _⟩
        rw [HK.out]
        rfl
end Go.Proofs.YtghblaphkbcgpaaDoor
