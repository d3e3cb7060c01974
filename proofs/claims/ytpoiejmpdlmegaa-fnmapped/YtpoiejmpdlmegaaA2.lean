/- RoundDiv: both sides. -/
import Derived.Test.YtpoiejmpdlmegaaMR
import Derived.Test.YtpoiejmpdlmegaaA1
namespace Go.Proofs.Ytpoiejmpdlmegaa
open Go.RowKit

theorem big_any (x : Int) (w : World) : Calls Try.prog 38 #[.int .i64 x] w fun e w' => e = .returned (.bool (decide (-4000000000000000000 ≤ x ∧ x ≤ 4000000000000000000))) ∧ w' = w := by
  go_enter Try.func38, Try.ntmps38
  by_cases h : -4000000000000000000 ≤ x
  · by_cases h1 : x ≤ 4000000000000000000
    · go_wp2
      go_ret
      exact ⟨by simp [h, h1], rfl⟩
    · go_wp2
      go_ret
      exact ⟨by simp [h1], rfl⟩
  · go_wp2
    go_ret
    exact ⟨by simp; omega, rfl⟩

theorem ret2 {x y : Int} {w w' : World} (h : x = y) (hw : Below w.heap.size w w') : Ending.returned (.int .i64 x) = Ending.returned (.int .i64 y) ∧ Below w.heap.size w w' := ⟨by rw [h], hw⟩

set_option maxHeartbeats 1000000 in
theorem iRound_any (a b : Int) (w : World) : Calls Try.prog 36 #[.int .i64 a, .int .i64 b] w fun e w' => e = .returned (.int .i64 (rdV a b)) ∧ Below w.heap.size w w' := by
  have i1 := big_any b
  have i2 := big_any a
  by_cases hb0 : 1 ≤ b
  · by_cases hb : -4000000000000000000 ≤ b ∧ b ≤ 4000000000000000000
    · rw [decide_eq_true hb] at i1
      by_cases ha : -4000000000000000000 ≤ a ∧ a ≤ 4000000000000000000
      · rw [decide_eq_true ha] at i2
        have h0 := ediv_bounds hb0 ha.1 ha.2 (by decide)
        have h1 := tdiv_bounds hb0 ha.1 ha.2 (by decide)
        have t1 := Int.tmod_lt_of_pos a (show 0 < b by omega)
        have t2 := Int.lt_tmod_of_pos a (show 0 < b by omega)
        by_cases ht : a.tmod b < 0
        · have q := tdiv_neg hb0 ht
          by_cases h : b - (a.tmod b + b) ≤ a.tmod b + b
          · have E : Hid (a.tdiv b = rdV a b) := (show a.tdiv b = a / b + 1 by omega).trans (rdV_up ⟨hb0, hb.2⟩ ha (by omega))
            clear q
            go_enter Try.func36, Try.ntmps36
            go_wp2_with (first | (go_at_call 38; (with_reducible refine (i1 _).mono ?_); rintro e w' ⟨rfl, hw⟩; obtain rfl := hw.symm) | (go_at_call 38; (with_reducible refine (i2 _).mono ?_); rintro e w' ⟨rfl, hw⟩; obtain rfl := hw.symm) | go_quiet (fail))
            go_ret
            exact ret2 E.out (below_drewN (Below.refl _ _) _)
          · have E : Hid (a.tdiv b - 1 = rdV a b) := q.1.trans (rdV_down ⟨hb0, hb.2⟩ ha (by omega))
            clear q
            go_enter Try.func36, Try.ntmps36
            go_wp2_with (first | (go_at_call 38; (with_reducible refine (i1 _).mono ?_); rintro e w' ⟨rfl, hw⟩; obtain rfl := hw.symm) | (go_at_call 38; (with_reducible refine (i2 _).mono ?_); rintro e w' ⟨rfl, hw⟩; obtain rfl := hw.symm) | go_quiet (fail))
            go_ret
            exact ret2 E.out (below_drewN (Below.refl _ _) _)
        · have q := tdiv_pos hb0 ht
          by_cases h : b - a.tmod b ≤ a.tmod b
          · have E : Hid (a.tdiv b + 1 = rdV a b) := (show a.tdiv b + 1 = a / b + 1 by omega).trans (rdV_up ⟨hb0, hb.2⟩ ha (by omega))
            clear q
            go_enter Try.func36, Try.ntmps36
            go_wp2_with (first | (go_at_call 38; (with_reducible refine (i1 _).mono ?_); rintro e w' ⟨rfl, hw⟩; obtain rfl := hw.symm) | (go_at_call 38; (with_reducible refine (i2 _).mono ?_); rintro e w' ⟨rfl, hw⟩; obtain rfl := hw.symm) | go_quiet (fail))
            go_ret
            exact ret2 E.out (below_drewN (Below.refl _ _) _)
          · have E : Hid (a.tdiv b = rdV a b) := q.1.trans (rdV_down ⟨hb0, hb.2⟩ ha (by omega))
            clear q
            go_enter Try.func36, Try.ntmps36
            go_wp2_with (first | (go_at_call 38; (with_reducible refine (i1 _).mono ?_); rintro e w' ⟨rfl, hw⟩; obtain rfl := hw.symm) | (go_at_call 38; (with_reducible refine (i2 _).mono ?_); rintro e w' ⟨rfl, hw⟩; obtain rfl := hw.symm) | go_quiet (fail))
            go_ret
            exact ret2 E.out (below_drewN (Below.refl _ _) _)
      · have E : Hid (0 = rdV a b) := rdV_no (fun h => ha h.2)
        rw [decide_eq_false ha] at i2
        clear ha
        go_enter Try.func36, Try.ntmps36
        go_wp2_with (first | (go_at_call 38; (with_reducible refine (i1 _).mono ?_); rintro e w' ⟨rfl, hw⟩; obtain rfl := hw.symm) | (go_at_call 38; (with_reducible refine (i2 _).mono ?_); rintro e w' ⟨rfl, hw⟩; obtain rfl := hw.symm) | go_quiet (fail))
        go_ret
        exact ret2 E.out (Below.refl _ _)
    · have E : Hid (0 = rdV a b) := rdV_no (fun h => hb ⟨by omega, h.1.2⟩)
      rw [decide_eq_false hb] at i1
      clear hb
      go_enter Try.func36, Try.ntmps36
      go_wp2_with (first | (go_at_call 38; (with_reducible refine (i1 _).mono ?_); rintro e w' ⟨rfl, hw⟩; obtain rfl := hw.symm) | (go_at_call 38; (with_reducible refine (i2 _).mono ?_); rintro e w' ⟨rfl, hw⟩; obtain rfl := hw.symm) | go_quiet (fail))
      go_ret
      exact ret2 E.out (Below.refl _ _)
  · have E : Hid (0 = rdV a b) := rdV_no (fun h => hb0 h.1.1)
    go_enter Try.func36, Try.ntmps36
    go_wp2
    go_ret
    exact ret2 E.out (Below.refl _ _)
end Go.Proofs.Ytpoiejmpdlmegaa
