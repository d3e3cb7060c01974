/- Shift. -/
import Derived.Test.YtkfmmabamiommaaA1
namespace Go.Proofs.Ytkfmmabamiommaa
open Go.RowKit

theorem two_bounds {b : Int} (hb : 0 ≤ b ∧ b ≤ 60) : 1 ≤ (2 : Int) ^ b.toNat ∧ (2 : Int) ^ b.toNat ≤ 1152921504606846976 := by
  have : ∀ k : Fin 61, 1 ≤ (2 : Int) ^ k.val ∧ (2 : Int) ^ k.val ≤ 1152921504606846976 := by decide +kernel
  exact this ⟨b.toNat, by omega⟩

/-- Whether a rule goes to the greater neighbour: r is left over, m is missing. -/
def upB (c q r m : Int) : Bool := if c = 2 then decide (q < 0) && decide (0 < r) else if c = 3 then decide (m ≤ r) else if c = 4 then (decide (m < r) || (decide (r = m) && (q.tmod 2 != 0))) else false

/-- A number shifted by a rule. -/
def shv (x D c : Int) : Int := if upB c (x / D) (x % D) (D - x % D) = true then x / D + 1 else x / D

/-- What Shift answers. -/
def shV (x b c : Int) : Int := if (-4000000000000000000 ≤ x ∧ x ≤ 4000000000000000000) ∧ (0 ≤ b ∧ b ≤ 60) ∧ (1 ≤ c ∧ c ≤ 4) then shv x ((2 : Int) ^ b.toNat) c else 0

theorem shV_yes {x b c : Int} (hx : -4000000000000000000 ≤ x ∧ x ≤ 4000000000000000000) (hb : 0 ≤ b ∧ b ≤ 60) (hc : 1 ≤ c ∧ c ≤ 4) : shv x ((2 : Int) ^ b.toNat) c = shV x b c := by unfold shV; rw [if_pos ⟨hx, hb, hc⟩]
theorem shV_no {x b c : Int} (h : ¬ ((-4000000000000000000 ≤ x ∧ x ≤ 4000000000000000000) ∧ (0 ≤ b ∧ b ≤ 60) ∧ (1 ≤ c ∧ c ≤ 4))) : 0 = shV x b c := by unfold shV; rw [if_neg h]

theorem cut_any (c : Int) (w : World) : Calls Try.prog 50 #[.int .i64 c] w fun e w' => e = .returned (.bool (decide (1 ≤ c ∧ c ≤ 4))) ∧ w' = w := by
  go_enter Try.func50, Try.ntmps50
  by_cases h : 1 ≤ c
  · by_cases h1 : c ≤ 4
    · go_wp2
      go_ret
      exact ⟨by simp [h, h1], rfl⟩
    · go_wp2
      go_ret
      exact ⟨by simp [h1], rfl⟩
  · go_wp2
    go_ret
    exact ⟨by simp; omega, rfl⟩

theorem sCut_any (c : Int) (w : World) : Calls Try.prog 43 #[.int .i64 c] w fun e w' => e = .returned (.bool (decide (1 ≤ c ∧ c ≤ 4))) ∧ w' = w := by
  have i1 := in_any c 1 4
  generalize decide (1 ≤ c ∧ c ≤ 4) = d at i1
  go_enter Try.func43, Try.ntmps43
  go_wp2_with (first | (go_at_call 30; (with_reducible refine (i1 _).mono ?_); rintro e w' ⟨rfl, hw⟩; obtain rfl := hw.symm))
  go_ret
  exact ⟨rfl, rfl⟩

set_option maxHeartbeats 1000000 in
theorem ups_any (c q r m : Int) (w : World) : Calls Try.prog 51 #[.int .i64 c, .int .i64 q, .int .i64 r, .int .i64 m] w fun e w' => e = .returned (.bool (upB c q r m)) ∧ w' = w := by
  by_cases h2 : c = 2
  · subst h2
    go_enter Try.func51, Try.ntmps51
    go_wp2
    all_goals
      go_ret
      refine ⟨congrArg (fun z => Ending.returned (.bool z)) ?_, rfl⟩
      simp [upB]
      try omega
  · by_cases h3 : c = 3
    · subst h3
      go_enter Try.func51, Try.ntmps51
      go_wp2
      all_goals
        go_ret
        refine ⟨congrArg (fun z => Ending.returned (.bool z)) ?_, rfl⟩
        simp [upB]
        try omega
    · by_cases h4 : c = 4
      · subst h4
        go_enter Try.func51, Try.ntmps51
        go_wp2
        all_goals
          go_ret
          refine ⟨congrArg (fun z => Ending.returned (.bool z)) ?_, rfl⟩
          first | (simp [upB]; done) | (simp [upB]; omega) | (simp_all [upB]; done) | (simp_all [upB]; omega)
      · go_enter Try.func51, Try.ntmps51
        go_wp2
        go_ret
        exact ⟨by simp [upB, h2, h3, h4], rfl⟩

set_option maxHeartbeats 1000000 in
theorem iShift_any (x b c : Int) (w : World) : Calls Try.prog 49 #[.int .i64 x, .int .i64 b, .int .i64 c] w fun e w' => e = .returned (.int .i64 (shV x b c)) ∧ w' = w := by
  have i1 := big_any x
  have i2 := cut_any c
  by_cases hx : -4000000000000000000 ≤ x ∧ x ≤ 4000000000000000000
  · rw [decide_eq_true hx] at i1
    by_cases hb : 0 ≤ b ∧ b ≤ 60
    · by_cases hc : 1 ≤ c ∧ c ≤ 4
      · rw [decide_eq_true hc] at i2
        have D := two_bounds hb
        have h0 := ediv_bounds D.1 hx.1 hx.2 (by decide)
        have hr := sub_emod x ((2 : Int) ^ b.toNat)
        have r0 := Int.emod_nonneg x (show (2 : Int) ^ b.toNat ≠ 0 by omega)
        have r1 := Int.emod_lt_of_pos x (show 0 < (2 : Int) ^ b.toNat by omega)
        have hp : -9000000000000000000 ≤ x / (2 : Int) ^ b.toNat * (2 : Int) ^ b.toNat ∧ x / (2 : Int) ^ b.toNat * (2 : Int) ^ b.toNat ≤ 9000000000000000000 := by omega
        have i3 := ups_any c (x / (2 : Int) ^ b.toNat) (x % (2 : Int) ^ b.toNat) ((2 : Int) ^ b.toNat - x % (2 : Int) ^ b.toNat)
        have E : Hid _ := shV_yes hx hb hc
        unfold shv at E
        cases hu : upB c (x / (2 : Int) ^ b.toNat) (x % (2 : Int) ^ b.toNat) ((2 : Int) ^ b.toNat - x % (2 : Int) ^ b.toNat)
        · rw [hu] at i3 E
          clear hu
          have E2 : Hid (x / (2 : Int) ^ b.toNat = shV x b c) := by have := E.out; simp only [Bool.false_eq_true, if_false] at this; exact this
          clear E
          go_enter Try.func49, Try.ntmps49
          go_wp2_with (first | (go_at_call 42; (with_reducible refine (i1 _).mono ?_); rintro e w' ⟨rfl, hw⟩; obtain rfl := hw.symm) | (go_at_call 50; (with_reducible refine (i2 _).mono ?_); rintro e w' ⟨rfl, hw⟩; obtain rfl := hw.symm) | (go_at_call 51; (with_reducible refine (i3 _).mono ?_); rintro e w' ⟨rfl, hw⟩; obtain rfl := hw.symm))
          go_ret
          exact ret1 E2.out rfl
        · rw [hu] at i3 E
          clear hu
          have E2 : Hid (x / (2 : Int) ^ b.toNat + 1 = shV x b c) := by have := E.out; simp only [if_true] at this; exact this
          clear E
          go_enter Try.func49, Try.ntmps49
          go_wp2_with (first | (go_at_call 42; (with_reducible refine (i1 _).mono ?_); rintro e w' ⟨rfl, hw⟩; obtain rfl := hw.symm) | (go_at_call 50; (with_reducible refine (i2 _).mono ?_); rintro e w' ⟨rfl, hw⟩; obtain rfl := hw.symm) | (go_at_call 51; (with_reducible refine (i3 _).mono ?_); rintro e w' ⟨rfl, hw⟩; obtain rfl := hw.symm))
          go_ret
          exact ret1 E2.out rfl
      · rw [decide_eq_false hc] at i2
        have E : Hid (0 = shV x b c) := shV_no (fun h => hc h.2.2)
        clear hc
        go_enter Try.func49, Try.ntmps49
        go_wp2_with (first | (go_at_call 42; (with_reducible refine (i1 _).mono ?_); rintro e w' ⟨rfl, hw⟩; obtain rfl := hw.symm) | (go_at_call 50; (with_reducible refine (i2 _).mono ?_); rintro e w' ⟨rfl, hw⟩; obtain rfl := hw.symm) | (go_at_call 51; (with_reducible refine (i3 _).mono ?_); rintro e w' ⟨rfl, hw⟩; obtain rfl := hw.symm))
        go_ret
        exact ret1 E.out rfl
    · have E : Hid (0 = shV x b c) := shV_no (fun h => hb h.2.1)
      have hb' : b < 0 ∨ 60 < b := by omega
      clear hb
      rcases hb' with h | h
      · go_enter Try.func49, Try.ntmps49
        go_wp2_with (first | (go_at_call 42; (with_reducible refine (i1 _).mono ?_); rintro e w' ⟨rfl, hw⟩; obtain rfl := hw.symm) | (go_at_call 50; (with_reducible refine (i2 _).mono ?_); rintro e w' ⟨rfl, hw⟩; obtain rfl := hw.symm) | (go_at_call 51; (with_reducible refine (i3 _).mono ?_); rintro e w' ⟨rfl, hw⟩; obtain rfl := hw.symm))
        go_ret
        exact ret1 E.out rfl
      · go_enter Try.func49, Try.ntmps49
        go_wp2_with (first | (go_at_call 42; (with_reducible refine (i1 _).mono ?_); rintro e w' ⟨rfl, hw⟩; obtain rfl := hw.symm) | (go_at_call 50; (with_reducible refine (i2 _).mono ?_); rintro e w' ⟨rfl, hw⟩; obtain rfl := hw.symm) | (go_at_call 51; (with_reducible refine (i3 _).mono ?_); rintro e w' ⟨rfl, hw⟩; obtain rfl := hw.symm))
        go_ret
        exact ret1 E.out rfl
  · rw [decide_eq_false hx] at i1
    have E : Hid (0 = shV x b c) := shV_no (fun h => hx h.1)
    clear hx
    go_enter Try.func49, Try.ntmps49
    go_wp2_with (first | (go_at_call 42; (with_reducible refine (i1 _).mono ?_); rintro e w' ⟨rfl, hw⟩; obtain rfl := hw.symm) | (go_at_call 50; (with_reducible refine (i2 _).mono ?_); rintro e w' ⟨rfl, hw⟩; obtain rfl := hw.symm) | (go_at_call 51; (with_reducible refine (i3 _).mono ?_); rintro e w' ⟨rfl, hw⟩; obtain rfl := hw.symm))
    go_ret
    exact ret1 E.out rfl

set_option maxRecDepth 20000 in
set_option maxHeartbeats 2000000 in
theorem sShift_any (x b c : Int) (w : World) : Calls Try.prog 36 #[.int .i64 x, .int .i64 b, .int .i64 c] w fun e w' => e = .returned (.int .i64 (shV x b c)) ∧ w' = w := by
  have i1 := in_any x (-4000000000000000000) 4000000000000000000
  have i2 := in_any b 0 60
  have i3 := sCut_any c
  by_cases hx : -4000000000000000000 ≤ x ∧ x ≤ 4000000000000000000
  · rw [decide_eq_true hx] at i1
    by_cases hb : 0 ≤ b ∧ b ≤ 60
    · rw [decide_eq_true hb] at i2
      by_cases hc : 1 ≤ c ∧ c ≤ 4
      · rw [decide_eq_true hc] at i3
        have D := two_bounds hb
        have i4 := floor_any x ((2 : Int) ^ b.toNat) hx (by omega)
        have h0 := ediv_bounds D.1 hx.1 hx.2 (by decide)
        have hr := sub_emod x ((2 : Int) ^ b.toNat)
        have r0 := Int.emod_nonneg x (show (2 : Int) ^ b.toNat ≠ 0 by omega)
        have r1 := Int.emod_lt_of_pos x (show 0 < (2 : Int) ^ b.toNat by omega)
        have hp : -9000000000000000000 ≤ x / (2 : Int) ^ b.toNat * (2 : Int) ^ b.toNat ∧ x / (2 : Int) ^ b.toNat * (2 : Int) ^ b.toNat ≤ 9000000000000000000 := by omega
        have HZ : Hid (b = 0 → (2 : Int) ^ b.toNat = 1) := by intro h; subst h; rfl
        have E : Hid _ := shV_yes hx hb hc
        unfold shv at E
        generalize x % (2 : Int) ^ b.toNat = r at hr r0 r1 E
        generalize x / (2 : Int) ^ b.toNat = q at i4 h0 hr hp E
        obtain rfl | rfl | rfl | rfl : c = 1 ∨ c = 2 ∨ c = 3 ∨ c = 4 := by omega
        all_goals
          clear hc
          obtain ⟨m, hm⟩ : ∃ m, (2 : Int) ^ b.toNat - r = m := ⟨_, rfl⟩
          rw [hm] at E
        all_goals
          go_enter Try.func36, Try.ntmps36
          go_wp2_with (first | (go_at_call 30; (with_reducible refine (i1 _).mono ?_); rintro e w' ⟨rfl, hw⟩; obtain rfl := hw.symm) | (go_at_call 30; (with_reducible refine (i2 _).mono ?_); rintro e w' ⟨rfl, hw⟩; obtain rfl := hw.symm) | (go_at_call 43; (with_reducible refine (i3 _).mono ?_); rintro e w' ⟨rfl, hw⟩; obtain rfl := hw.symm) | (go_at_call 41; (with_reducible refine (i4 _).mono ?_); rintro e w' ⟨rfl, hw⟩; obtain rfl := hw.symm))
        all_goals
          go_ret
          refine ⟨congrArg (fun z => Ending.returned (.int .i64 z)) (Eq.trans ?_ E.out), rfl⟩
          have hz := HZ.out
          clear i1 i2 i3 i4 E HZ hr hp
          generalize (2 : Int) ^ b.toNat = D at *
          try simp only [bne_iff_ne, bne_eq_false_iff_eq] at *
          first
            | (refine (if_pos ?_).symm; simp [upB]; done)
            | (refine (if_neg ?_).symm; simp [upB]; done)
            | (refine (if_pos ?_).symm; simp [upB]; generalize q.tmod 2 = z at *; omega)
            | (refine (if_neg ?_).symm; simp [upB]; generalize q.tmod 2 = z at *; omega)
      · rw [decide_eq_false hc] at i3
        have E : Hid (0 = shV x b c) := shV_no (fun h => hc h.2.2)
        clear hc
        go_enter Try.func36, Try.ntmps36
        go_wp2_with (first | (go_at_call 30; (with_reducible refine (i1 _).mono ?_); rintro e w' ⟨rfl, hw⟩; obtain rfl := hw.symm) | (go_at_call 30; (with_reducible refine (i2 _).mono ?_); rintro e w' ⟨rfl, hw⟩; obtain rfl := hw.symm) | (go_at_call 43; (with_reducible refine (i3 _).mono ?_); rintro e w' ⟨rfl, hw⟩; obtain rfl := hw.symm) | (go_at_call 41; (with_reducible refine (i4 _).mono ?_); rintro e w' ⟨rfl, hw⟩; obtain rfl := hw.symm))
        go_ret
        exact ret1 E.out rfl
    · rw [decide_eq_false hb] at i2
      have E : Hid (0 = shV x b c) := shV_no (fun h => hb h.2.1)
      clear hb
      go_enter Try.func36, Try.ntmps36
      go_wp2_with (first | (go_at_call 30; (with_reducible refine (i1 _).mono ?_); rintro e w' ⟨rfl, hw⟩; obtain rfl := hw.symm) | (go_at_call 30; (with_reducible refine (i2 _).mono ?_); rintro e w' ⟨rfl, hw⟩; obtain rfl := hw.symm) | (go_at_call 43; (with_reducible refine (i3 _).mono ?_); rintro e w' ⟨rfl, hw⟩; obtain rfl := hw.symm) | (go_at_call 41; (with_reducible refine (i4 _).mono ?_); rintro e w' ⟨rfl, hw⟩; obtain rfl := hw.symm))
      go_ret
      exact ret1 E.out rfl
  · rw [decide_eq_false hx] at i1
    have E : Hid (0 = shV x b c) := shV_no (fun h => hx h.1)
    clear hx
    go_enter Try.func36, Try.ntmps36
    go_wp2_with (first | (go_at_call 30; (with_reducible refine (i1 _).mono ?_); rintro e w' ⟨rfl, hw⟩; obtain rfl := hw.symm) | (go_at_call 30; (with_reducible refine (i2 _).mono ?_); rintro e w' ⟨rfl, hw⟩; obtain rfl := hw.symm) | (go_at_call 43; (with_reducible refine (i3 _).mono ?_); rintro e w' ⟨rfl, hw⟩; obtain rfl := hw.symm) | (go_at_call 41; (with_reducible refine (i4 _).mono ?_); rintro e w' ⟨rfl, hw⟩; obtain rfl := hw.symm))
    go_ret
    exact ret1 E.out rfl

end Go.Proofs.Ytkfmmabamiommaa
