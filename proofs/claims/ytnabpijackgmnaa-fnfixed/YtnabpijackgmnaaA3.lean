/- Clip. -/
import Derived.Test.YtnabpijackgmnaaA1
namespace Go.Proofs.Ytnabpijackgmnaa
open Go.RowKit

theorem below_one (w : World) (o : Obj) : Below w.heap.size w (w.alloc o) := (Below.refl _ _).alloc (Nat.le_refl _) _

theorem bstep {w w1 w2 : World} (h1 : Below w.heap.size w w1) (h2 : Below w1.heap.size w1 w2) : Below w.heap.size w w2 := h1.trans (h2.mono h1.size)

theorem half_bounds {b : Int} (hb : 1 ≤ b ∧ b ≤ 24) : 1 ≤ (2 : Int) ^ (b.toNat - 1) ∧ (2 : Int) ^ (b.toNat - 1) ≤ 8388608 := by
  have : ∀ k : Fin 24, 1 ≤ (2 : Int) ^ k.val ∧ (2 : Int) ^ k.val ≤ 8388608 := by decide +kernel
  exact this ⟨b.toNat - 1, by omega⟩

/-- Half of the numbers of a word. -/
abbrev hf (b : Int) : Int := (2 : Int) ^ (b.toNat - 1)

/-- Not beyond the ends. -/
def clp (x P : Int) : Int := if x < -P then -P else if P - 1 < x then P - 1 else x

set_option maxHeartbeats 1000000 in
theorem wordOf_any (b : Int) (hb : 1 ≤ b ∧ b ≤ 24) (w : World) : Calls Try.prog 43 #[.int .i64 b] w fun e w' => e = .returned (.agg #[.int .i64 (-hf b), .int .i64 (hf b - 1)]) ∧ Below w.heap.size w w' := by
  have h := half_bounds hb
  go_enter Try.func43, Try.ntmps43
  go_wp2
  refine bodyPost_ret (v := .agg #[.int .i64 (-hf b), .int .i64 (hf b - 1)]) (by simp [results, Try.results43, go_sem]) rfl ⟨rfl, ?_⟩
  exact below_one _ _

set_option maxHeartbeats 1000000 in
theorem clip_any (P x : Int) (hP : 1 ≤ P) (w : World) : Calls Try.prog 44 #[.agg #[.int .i64 (-P), .int .i64 (P - 1)], .int .i64 x] w fun e w' => e = .returned (.int .i64 (clp x P)) ∧ Below w.heap.size w w' := by
  go_enter Try.func44, Try.ntmps44
  go_wp2
  all_goals
    go_ret
    refine ⟨congrArg (fun z => Ending.returned (.int .i64 z)) ?_, below_one _ _⟩
    unfold clp
    repeat' split
    all_goals (simp_all <;> omega)
theorem width_any (b : Int) (w : World) : Calls Try.prog 54 #[.int .i64 b] w fun e w' => e = .returned (.bool (decide (1 ≤ b ∧ b ≤ 24))) ∧ w' = w := by
  go_enter Try.func54, Try.ntmps54
  by_cases h : 1 ≤ b
  · by_cases h1 : b ≤ 24
    · go_wp2
      go_ret
      exact ⟨by simp [h, h1], rfl⟩
    · go_wp2
      go_ret
      exact ⟨by simp [h1], rfl⟩
  · go_wp2
    go_ret
    exact ⟨by simp; omega, rfl⟩

/-- What Clip answers. -/
def clV (x b : Int) : Int := if 1 ≤ b ∧ b ≤ 24 then clp x (hf b) else 0

theorem clV_yes {x b : Int} (hb : 1 ≤ b ∧ b ≤ 24) : clp x (hf b) = clV x b := by unfold clV; rw [if_pos hb]
theorem clV_no {x b : Int} (hb : ¬ (1 ≤ b ∧ b ≤ 24)) : 0 = clV x b := by unfold clV; rw [if_neg hb]

set_option maxHeartbeats 1000000 in
theorem sClip_any (x b : Int) (w : World) : Calls Try.prog 51 #[.int .i64 x, .int .i64 b] w fun e w' => e = .returned (.int .i64 (clV x b)) ∧ w' = w := by
  have i1 := in_any b 1 24
  by_cases hb : 1 ≤ b ∧ b ≤ 24
  · rw [decide_eq_true hb] at i1
    have h := half_bounds hb
    have E : Hid _ := clV_yes (x := x) hb
    go_enter Try.func51, Try.ntmps51
    go_wp2_with (first | (go_at_call 34; (with_reducible refine (i1 _).mono ?_); rintro e w' ⟨rfl, hw⟩; obtain rfl := hw.symm))
    all_goals
      go_ret
      refine ⟨congrArg (fun z => Ending.returned (.int .i64 z)) (Eq.trans ?_ E.out), rfl⟩
      unfold clp hf
      repeat' split
      all_goals omega
  · rw [decide_eq_false hb] at i1
    have E : Hid _ := clV_no (x := x) hb
    clear hb
    go_enter Try.func51, Try.ntmps51
    go_wp2_with (first | (go_at_call 34; (with_reducible refine (i1 _).mono ?_); rintro e w' ⟨rfl, hw⟩; obtain rfl := hw.symm))
    go_ret
    exact ret1 E.out rfl

set_option maxHeartbeats 1000000 in
theorem iClip_any (x b : Int) (w : World) : Calls Try.prog 18 #[.int .i64 x, .int .i64 b] w fun e w' => e = .returned (.int .i64 (clV x b)) ∧ Below w.heap.size w w' := by
  have i1 := width_any b
  by_cases hb : 1 ≤ b ∧ b ≤ 24
  · rw [decide_eq_true hb] at i1
    have h := half_bounds hb
    have E : Hid _ := clV_yes (x := x) hb
    have i2 := wordOf_any b hb
    have i3 := clip_any (hf b) x h.1
    clear h
    generalize hf b = P at i2 i3 E
    go_enter Try.func18, Try.ntmps18
    go_wp2_with (first | (go_at_call 54; (with_reducible refine (i1 _).mono ?_); rintro e w' ⟨rfl, hw⟩; obtain rfl := hw.symm) | (go_at_call 43; (with_reducible refine (i2 _).mono ?_); rintro e w' ⟨rfl, hb1⟩) | (go_at_call 44; (with_reducible refine (i3 _).mono ?_); rintro e w' ⟨rfl, hb2⟩))
    go_ret
    exact ⟨congrArg (fun z => Ending.returned (.int .i64 z)) E.out, bstep hb1 hb2⟩
  · rw [decide_eq_false hb] at i1
    have E : Hid _ := clV_no (x := x) hb
    clear hb
    go_enter Try.func18, Try.ntmps18
    go_wp2_with (first | (go_at_call 54; (with_reducible refine (i1 _).mono ?_); rintro e w' ⟨rfl, hw⟩; obtain rfl := hw.symm) | (go_at_call 43; (with_reducible refine (i2 _).mono ?_); rintro e w' ⟨rfl, hb1⟩) | (go_at_call 44; (with_reducible refine (i3 _).mono ?_); rintro e w' ⟨rfl, hb2⟩))
    go_ret
    exact ⟨congrArg (fun z => Ending.returned (.int .i64 z)) E.out, Below.refl _ _⟩

end Go.Proofs.Ytnabpijackgmnaa
