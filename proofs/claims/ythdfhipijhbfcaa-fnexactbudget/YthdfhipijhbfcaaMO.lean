/- Modems: which are one, on both sides. -/
import Derived.Test.YthdfhipijhbfcaaRows
import Derived.WalkKit
import Derived.WalkSpells
import Derived.WalkLawsBesides
import Derived.Deep.QuietTactic
import Derived.BigQuiet
import Derived.BigRegion
import Derived.Deep.Cut
namespace Go.Proofs.Ythdfhipijhbfcaa
open Go.RowKit

theorem below_one (w : World) (o : Obj) : Below w.heap.size w (w.alloc o) := (Below.refl _ _).alloc (Nat.le_refl _) _

theorem bstep {w w1 w2 : World} (h1 : Below w.heap.size w w1) (h2 : Below w1.heap.size w1 w2) : Below w.heap.size w w2 := h1.trans (h2.mono h1.size)

/-- A modem that is one. -/
def Mok (wi me ro se ra si : Int) : Prop := (wi = 2 ∨ wi = 4 ∨ wi = 6 ∨ wi = 8) ∧ (1 ≤ me ∧ me ≤ 8) ∧ (1 ≤ ro ∧ ro ≤ 64) ∧ (1 ≤ se ∧ se ≤ 65535) ∧ (1 ≤ ra ∧ ra ≤ 8) ∧ (1 ≤ si ∧ si ≤ 10000)
instance (wi me ro se ra si : Int) : Decidable (Mok wi me ro se ra si) := by unfold Mok; infer_instance

theorem count_any (x m : Int) (w : World) : Calls Try.prog 15 #[.int .i64 x, .int .i64 m] w fun e w' => e = .returned (.bool (decide (1 ≤ x ∧ x ≤ m))) ∧ w' = w := by
  go_enter Try.func15, Try.ntmps15
  by_cases h : 1 ≤ x
  · by_cases h1 : x ≤ m
    · go_wp2
      go_ret
      exact ⟨by simp [h, h1], rfl⟩
    · go_wp2
      go_ret
      exact ⟨by simp [h1], rfl⟩
  · go_wp2
    go_ret
    exact ⟨by simp; omega, rfl⟩

theorem pw_any (x : Int) (w : World) : Calls Try.prog 13 #[.int .i64 x] w fun e w' => e = .returned (.bool (decide (x = 2 ∨ x = 4 ∨ x = 6 ∨ x = 8))) ∧ w' = w := by
  go_enter Try.func13, Try.ntmps13
  by_cases h : 2 ≤ x
  · by_cases h1 : x ≤ 8
    · have hx : x.tmod 2 = x % 2 := Int.tmod_eq_emod_of_nonneg (by omega)
      by_cases h2 : x % 2 = 0
      · go_wp2
        go_ret
        refine ⟨?_, rfl⟩
        exact congrArg (fun z => Ending.returned (.bool z)) (by have : x = 2 ∨ x = 4 ∨ x = 6 ∨ x = 8 := by omega
                                                                rcases this with rfl | rfl | rfl | rfl <;> decide)
      · go_wp2
        go_ret
        refine ⟨?_, rfl⟩
        exact congrArg (fun z => Ending.returned (.bool z)) (by rw [decide_eq_false (show ¬ (x = 2 ∨ x = 4 ∨ x = 6 ∨ x = 8) by omega)]; simp [h2]; try omega)
    · go_wp2
      go_ret
      exact ⟨by simp; omega, rfl⟩
  · go_wp2
    go_ret
    exact ⟨by simp; omega, rfl⟩

theorem mend_any (x : Int) (w : World) : Calls Try.prog 14 #[.int .i64 x] w fun e w' => e = .returned (.bool (decide (1 ≤ x ∧ x ≤ 8))) ∧ w' = w := by
  go_enter Try.func14, Try.ntmps14
  by_cases h : 1 ≤ x
  · by_cases h1 : x ≤ 8
    · go_wp2
      go_ret
      exact ⟨by simp [h, h1], rfl⟩
    · go_wp2
      go_ret
      exact ⟨by simp [h1], rfl⟩
  · go_wp2
    go_ret
    exact ⟨by simp; omega, rfl⟩

theorem in_one (x lo hi : Int) (w : World) : Calls Try.prog 12 #[.int .i64 x, .int .i64 lo, .int .i64 hi] w fun e w' => e = .returned (.bool (decide (lo ≤ x ∧ x ≤ hi))) ∧ w' = w := by
  go_enter Try.func12, Try.ntmps12
  by_cases h : lo ≤ x
  · by_cases h1 : x ≤ hi
    · go_wp2
      go_ret
      exact ⟨by simp [h, h1], rfl⟩
    · go_wp2
      go_ret
      exact ⟨by simp [h1], rfl⟩
  · go_wp2
    go_ret
    exact ⟨by simp; omega, rfl⟩

theorem spw_any (x : Int) (w : World) : Calls Try.prog 10 #[.int .i64 x] w fun e w' => e = .returned (.bool (decide (x = 2 ∨ x = 4 ∨ x = 6 ∨ x = 8))) ∧ w' = w := by
  go_enter Try.func10, Try.ntmps10
  by_cases h : x = 2
  · go_wp2
    go_ret
    exact ⟨by simp [h], rfl⟩
  · by_cases h1 : x = 4
    · go_wp2
      go_ret
      exact ⟨by simp [h1], rfl⟩
    · by_cases h2 : x = 6
      · go_wp2
        go_ret
        exact ⟨by simp [h2], rfl⟩
      · by_cases h3 : x = 8
        · go_wp2
          go_ret
          exact ⟨by simp [h3], rfl⟩
        · go_wp2
          go_ret
          exact ⟨by simp [h, h1, h2, h3], rfl⟩

theorem smend_any (x : Int) (w : World) : Calls Try.prog 11 #[.int .i64 x] w fun e w' => e = .returned (.bool (decide (1 ≤ x ∧ x ≤ 8))) ∧ w' = w := by
  go_enter Try.func11, Try.ntmps11
  go_wp2_with (go_at_call 12; (with_reducible refine (in_one x 1 8 w).mono ?_); rintro e w' ⟨rfl, hw⟩; obtain rfl := hw.symm)
  go_ret
  exact ⟨congrArg (fun z => Ending.returned (.bool z)) (by simp), rfl⟩

theorem iMok_any (wi me ro se ra si : Int) (w : World) : Calls Try.prog 7 #[.agg #[.int .i64 wi, .int .i64 me, .int .i64 ro, .int .i64 se, .int .i64 ra, .int .i64 si]] w fun e w' => e = .returned (.bool (decide (Mok wi me ro se ra si))) ∧ Below w.heap.size w w' := by
  have b1 : Hid (Below w.heap.size w (w.alloc (.cells #[.int .i64 wi, .int .i64 me, .int .i64 ro, .int .i64 se, .int .i64 ra, .int .i64 si] 25))) := below_one w _
  have k0 := pw_any wi (w.alloc (.cells #[.int .i64 wi, .int .i64 me, .int .i64 ro, .int .i64 se, .int .i64 ra, .int .i64 si] 25))
  have k1 := mend_any me (w.alloc (.cells #[.int .i64 wi, .int .i64 me, .int .i64 ro, .int .i64 se, .int .i64 ra, .int .i64 si] 25))
  have k2 := count_any ro 64 (w.alloc (.cells #[.int .i64 wi, .int .i64 me, .int .i64 ro, .int .i64 se, .int .i64 ra, .int .i64 si] 25))
  have k3 := count_any se 65535 (w.alloc (.cells #[.int .i64 wi, .int .i64 me, .int .i64 ro, .int .i64 se, .int .i64 ra, .int .i64 si] 25))
  have k4 := count_any ra 8 (w.alloc (.cells #[.int .i64 wi, .int .i64 me, .int .i64 ro, .int .i64 se, .int .i64 ra, .int .i64 si] 25))
  have k5 := count_any si 10000 (w.alloc (.cells #[.int .i64 wi, .int .i64 me, .int .i64 ro, .int .i64 se, .int .i64 ra, .int .i64 si] 25))
  by_cases h0 : wi = 2 ∨ wi = 4 ∨ wi = 6 ∨ wi = 8
  · rw [decide_eq_true h0] at k0
    by_cases h1 : 1 ≤ me ∧ me ≤ 8
    · rw [decide_eq_true h1] at k1
      by_cases h2 : 1 ≤ ro ∧ ro ≤ 64
      · rw [decide_eq_true h2] at k2
        by_cases h3 : 1 ≤ se ∧ se ≤ 65535
        · rw [decide_eq_true h3] at k3
          by_cases h4 : 1 ≤ ra ∧ ra ≤ 8
          · rw [decide_eq_true h4] at k4
            by_cases h5 : 1 ≤ si ∧ si ≤ 10000
            · rw [decide_eq_true h5] at k5
              go_enter Try.func7, Try.ntmps7
              go_wp2_with (first
                  | (go_at_call 13; (with_reducible refine k0.mono ?_); rintro e w' ⟨rfl, hw⟩; obtain rfl := hw.symm; clear k0)
                  | (go_at_call 14; (with_reducible refine k1.mono ?_); rintro e w' ⟨rfl, hw⟩; obtain rfl := hw.symm; clear k1)
                  | (go_at_call 15; (with_reducible refine k2.mono ?_); rintro e w' ⟨rfl, hw⟩; obtain rfl := hw.symm; clear k2)
                  | (go_at_call 15; (with_reducible refine k3.mono ?_); rintro e w' ⟨rfl, hw⟩; obtain rfl := hw.symm; clear k3)
                  | (go_at_call 15; (with_reducible refine k4.mono ?_); rintro e w' ⟨rfl, hw⟩; obtain rfl := hw.symm; clear k4)
                  | (go_at_call 15; (with_reducible refine k5.mono ?_); rintro e w' ⟨rfl, hw⟩; obtain rfl := hw.symm; clear k5))
              go_ret
              exact ⟨by rw [decide_eq_true (show Mok wi me ro se ra si from ⟨h0, h1, h2, h3, h4, h5⟩)]; rfl, b1.out⟩
            · rw [decide_eq_false h5] at k5
              go_enter Try.func7, Try.ntmps7
              go_wp2_with (first
                  | (go_at_call 13; (with_reducible refine k0.mono ?_); rintro e w' ⟨rfl, hw⟩; obtain rfl := hw.symm; clear k0)
                  | (go_at_call 14; (with_reducible refine k1.mono ?_); rintro e w' ⟨rfl, hw⟩; obtain rfl := hw.symm; clear k1)
                  | (go_at_call 15; (with_reducible refine k2.mono ?_); rintro e w' ⟨rfl, hw⟩; obtain rfl := hw.symm; clear k2)
                  | (go_at_call 15; (with_reducible refine k3.mono ?_); rintro e w' ⟨rfl, hw⟩; obtain rfl := hw.symm; clear k3)
                  | (go_at_call 15; (with_reducible refine k4.mono ?_); rintro e w' ⟨rfl, hw⟩; obtain rfl := hw.symm; clear k4)
                  | (go_at_call 15; (with_reducible refine k5.mono ?_); rintro e w' ⟨rfl, hw⟩; obtain rfl := hw.symm; clear k5))
              go_ret
              exact ⟨by rw [decide_eq_false (fun hm : Mok wi me ro se ra si => by unfold Mok at hm; omega)]; rfl, b1.out⟩
          · rw [decide_eq_false h4] at k4
            go_enter Try.func7, Try.ntmps7
            go_wp2_with (first
                | (go_at_call 13; (with_reducible refine k0.mono ?_); rintro e w' ⟨rfl, hw⟩; obtain rfl := hw.symm; clear k0)
                | (go_at_call 14; (with_reducible refine k1.mono ?_); rintro e w' ⟨rfl, hw⟩; obtain rfl := hw.symm; clear k1)
                | (go_at_call 15; (with_reducible refine k2.mono ?_); rintro e w' ⟨rfl, hw⟩; obtain rfl := hw.symm; clear k2)
                | (go_at_call 15; (with_reducible refine k3.mono ?_); rintro e w' ⟨rfl, hw⟩; obtain rfl := hw.symm; clear k3)
                | (go_at_call 15; (with_reducible refine k4.mono ?_); rintro e w' ⟨rfl, hw⟩; obtain rfl := hw.symm; clear k4)
                | (go_at_call 15; (with_reducible refine k5.mono ?_); rintro e w' ⟨rfl, hw⟩; obtain rfl := hw.symm; clear k5))
            go_ret
            exact ⟨by rw [decide_eq_false (fun hm : Mok wi me ro se ra si => by unfold Mok at hm; omega)]; rfl, b1.out⟩
        · rw [decide_eq_false h3] at k3
          go_enter Try.func7, Try.ntmps7
          go_wp2_with (first
              | (go_at_call 13; (with_reducible refine k0.mono ?_); rintro e w' ⟨rfl, hw⟩; obtain rfl := hw.symm; clear k0)
              | (go_at_call 14; (with_reducible refine k1.mono ?_); rintro e w' ⟨rfl, hw⟩; obtain rfl := hw.symm; clear k1)
              | (go_at_call 15; (with_reducible refine k2.mono ?_); rintro e w' ⟨rfl, hw⟩; obtain rfl := hw.symm; clear k2)
              | (go_at_call 15; (with_reducible refine k3.mono ?_); rintro e w' ⟨rfl, hw⟩; obtain rfl := hw.symm; clear k3)
              | (go_at_call 15; (with_reducible refine k4.mono ?_); rintro e w' ⟨rfl, hw⟩; obtain rfl := hw.symm; clear k4)
              | (go_at_call 15; (with_reducible refine k5.mono ?_); rintro e w' ⟨rfl, hw⟩; obtain rfl := hw.symm; clear k5))
          go_ret
          exact ⟨by rw [decide_eq_false (fun hm : Mok wi me ro se ra si => by unfold Mok at hm; omega)]; rfl, b1.out⟩
      · rw [decide_eq_false h2] at k2
        go_enter Try.func7, Try.ntmps7
        go_wp2_with (first
            | (go_at_call 13; (with_reducible refine k0.mono ?_); rintro e w' ⟨rfl, hw⟩; obtain rfl := hw.symm; clear k0)
            | (go_at_call 14; (with_reducible refine k1.mono ?_); rintro e w' ⟨rfl, hw⟩; obtain rfl := hw.symm; clear k1)
            | (go_at_call 15; (with_reducible refine k2.mono ?_); rintro e w' ⟨rfl, hw⟩; obtain rfl := hw.symm; clear k2)
            | (go_at_call 15; (with_reducible refine k3.mono ?_); rintro e w' ⟨rfl, hw⟩; obtain rfl := hw.symm; clear k3)
            | (go_at_call 15; (with_reducible refine k4.mono ?_); rintro e w' ⟨rfl, hw⟩; obtain rfl := hw.symm; clear k4)
            | (go_at_call 15; (with_reducible refine k5.mono ?_); rintro e w' ⟨rfl, hw⟩; obtain rfl := hw.symm; clear k5))
        go_ret
        exact ⟨by rw [decide_eq_false (fun hm : Mok wi me ro se ra si => by unfold Mok at hm; omega)]; rfl, b1.out⟩
    · rw [decide_eq_false h1] at k1
      go_enter Try.func7, Try.ntmps7
      go_wp2_with (first
          | (go_at_call 13; (with_reducible refine k0.mono ?_); rintro e w' ⟨rfl, hw⟩; obtain rfl := hw.symm; clear k0)
          | (go_at_call 14; (with_reducible refine k1.mono ?_); rintro e w' ⟨rfl, hw⟩; obtain rfl := hw.symm; clear k1)
          | (go_at_call 15; (with_reducible refine k2.mono ?_); rintro e w' ⟨rfl, hw⟩; obtain rfl := hw.symm; clear k2)
          | (go_at_call 15; (with_reducible refine k3.mono ?_); rintro e w' ⟨rfl, hw⟩; obtain rfl := hw.symm; clear k3)
          | (go_at_call 15; (with_reducible refine k4.mono ?_); rintro e w' ⟨rfl, hw⟩; obtain rfl := hw.symm; clear k4)
          | (go_at_call 15; (with_reducible refine k5.mono ?_); rintro e w' ⟨rfl, hw⟩; obtain rfl := hw.symm; clear k5))
      go_ret
      exact ⟨by rw [decide_eq_false (fun hm : Mok wi me ro se ra si => by unfold Mok at hm; omega)]; rfl, b1.out⟩
  · rw [decide_eq_false h0] at k0
    go_enter Try.func7, Try.ntmps7
    go_wp2_with (first
        | (go_at_call 13; (with_reducible refine k0.mono ?_); rintro e w' ⟨rfl, hw⟩; obtain rfl := hw.symm; clear k0)
        | (go_at_call 14; (with_reducible refine k1.mono ?_); rintro e w' ⟨rfl, hw⟩; obtain rfl := hw.symm; clear k1)
        | (go_at_call 15; (with_reducible refine k2.mono ?_); rintro e w' ⟨rfl, hw⟩; obtain rfl := hw.symm; clear k2)
        | (go_at_call 15; (with_reducible refine k3.mono ?_); rintro e w' ⟨rfl, hw⟩; obtain rfl := hw.symm; clear k3)
        | (go_at_call 15; (with_reducible refine k4.mono ?_); rintro e w' ⟨rfl, hw⟩; obtain rfl := hw.symm; clear k4)
        | (go_at_call 15; (with_reducible refine k5.mono ?_); rintro e w' ⟨rfl, hw⟩; obtain rfl := hw.symm; clear k5))
    go_ret
    exact ⟨by rw [decide_eq_false (fun hm : Mok wi me ro se ra si => by unfold Mok at hm; omega)]; rfl, b1.out⟩

theorem sMok_any (wi me ro se ra si : Int) (w : World) : Calls Try.prog 5 #[.agg #[.int .i64 wi, .int .i64 me, .int .i64 ro, .int .i64 se, .int .i64 ra, .int .i64 si]] w fun e w' => e = .returned (.bool (decide (Mok wi me ro se ra si))) ∧ Below w.heap.size w w' := by
  have b1 : Hid (Below w.heap.size w (w.alloc (.cells #[.int .i64 wi, .int .i64 me, .int .i64 ro, .int .i64 se, .int .i64 ra, .int .i64 si] 25))) := below_one w _
  have k0 := spw_any wi (w.alloc (.cells #[.int .i64 wi, .int .i64 me, .int .i64 ro, .int .i64 se, .int .i64 ra, .int .i64 si] 25))
  have k1 := smend_any me (w.alloc (.cells #[.int .i64 wi, .int .i64 me, .int .i64 ro, .int .i64 se, .int .i64 ra, .int .i64 si] 25))
  have k2 := in_one ro 1 64 (w.alloc (.cells #[.int .i64 wi, .int .i64 me, .int .i64 ro, .int .i64 se, .int .i64 ra, .int .i64 si] 25))
  have k3 := in_one se 1 65535 (w.alloc (.cells #[.int .i64 wi, .int .i64 me, .int .i64 ro, .int .i64 se, .int .i64 ra, .int .i64 si] 25))
  have k4 := in_one ra 1 8 (w.alloc (.cells #[.int .i64 wi, .int .i64 me, .int .i64 ro, .int .i64 se, .int .i64 ra, .int .i64 si] 25))
  have k5 := in_one si 1 10000 (w.alloc (.cells #[.int .i64 wi, .int .i64 me, .int .i64 ro, .int .i64 se, .int .i64 ra, .int .i64 si] 25))
  by_cases h0 : wi = 2 ∨ wi = 4 ∨ wi = 6 ∨ wi = 8
  · rw [decide_eq_true h0] at k0
    by_cases h1 : 1 ≤ me ∧ me ≤ 8
    · rw [decide_eq_true h1] at k1
      by_cases h2 : 1 ≤ ro ∧ ro ≤ 64
      · rw [decide_eq_true h2] at k2
        by_cases h3 : 1 ≤ se ∧ se ≤ 65535
        · rw [decide_eq_true h3] at k3
          by_cases h4 : 1 ≤ ra ∧ ra ≤ 8
          · rw [decide_eq_true h4] at k4
            by_cases h5 : 1 ≤ si ∧ si ≤ 10000
            · rw [decide_eq_true h5] at k5
              go_enter Try.func5, Try.ntmps5
              go_wp2_with (first
                  | (go_at_call 10; (with_reducible refine k0.mono ?_); rintro e w' ⟨rfl, hw⟩; obtain rfl := hw.symm; clear k0)
                  | (go_at_call 11; (with_reducible refine k1.mono ?_); rintro e w' ⟨rfl, hw⟩; obtain rfl := hw.symm; clear k1)
                  | (go_at_call 12; (with_reducible refine k2.mono ?_); rintro e w' ⟨rfl, hw⟩; obtain rfl := hw.symm; clear k2)
                  | (go_at_call 12; (with_reducible refine k3.mono ?_); rintro e w' ⟨rfl, hw⟩; obtain rfl := hw.symm; clear k3)
                  | (go_at_call 12; (with_reducible refine k4.mono ?_); rintro e w' ⟨rfl, hw⟩; obtain rfl := hw.symm; clear k4)
                  | (go_at_call 12; (with_reducible refine k5.mono ?_); rintro e w' ⟨rfl, hw⟩; obtain rfl := hw.symm; clear k5))
              go_ret
              exact ⟨by rw [decide_eq_true (show Mok wi me ro se ra si from ⟨h0, h1, h2, h3, h4, h5⟩)]; rfl, b1.out⟩
            · rw [decide_eq_false h5] at k5
              go_enter Try.func5, Try.ntmps5
              go_wp2_with (first
                  | (go_at_call 10; (with_reducible refine k0.mono ?_); rintro e w' ⟨rfl, hw⟩; obtain rfl := hw.symm; clear k0)
                  | (go_at_call 11; (with_reducible refine k1.mono ?_); rintro e w' ⟨rfl, hw⟩; obtain rfl := hw.symm; clear k1)
                  | (go_at_call 12; (with_reducible refine k2.mono ?_); rintro e w' ⟨rfl, hw⟩; obtain rfl := hw.symm; clear k2)
                  | (go_at_call 12; (with_reducible refine k3.mono ?_); rintro e w' ⟨rfl, hw⟩; obtain rfl := hw.symm; clear k3)
                  | (go_at_call 12; (with_reducible refine k4.mono ?_); rintro e w' ⟨rfl, hw⟩; obtain rfl := hw.symm; clear k4)
                  | (go_at_call 12; (with_reducible refine k5.mono ?_); rintro e w' ⟨rfl, hw⟩; obtain rfl := hw.symm; clear k5))
              go_ret
              exact ⟨by rw [decide_eq_false (fun hm : Mok wi me ro se ra si => by unfold Mok at hm; omega)]; rfl, b1.out⟩
          · rw [decide_eq_false h4] at k4
            go_enter Try.func5, Try.ntmps5
            go_wp2_with (first
                | (go_at_call 10; (with_reducible refine k0.mono ?_); rintro e w' ⟨rfl, hw⟩; obtain rfl := hw.symm; clear k0)
                | (go_at_call 11; (with_reducible refine k1.mono ?_); rintro e w' ⟨rfl, hw⟩; obtain rfl := hw.symm; clear k1)
                | (go_at_call 12; (with_reducible refine k2.mono ?_); rintro e w' ⟨rfl, hw⟩; obtain rfl := hw.symm; clear k2)
                | (go_at_call 12; (with_reducible refine k3.mono ?_); rintro e w' ⟨rfl, hw⟩; obtain rfl := hw.symm; clear k3)
                | (go_at_call 12; (with_reducible refine k4.mono ?_); rintro e w' ⟨rfl, hw⟩; obtain rfl := hw.symm; clear k4)
                | (go_at_call 12; (with_reducible refine k5.mono ?_); rintro e w' ⟨rfl, hw⟩; obtain rfl := hw.symm; clear k5))
            go_ret
            exact ⟨by rw [decide_eq_false (fun hm : Mok wi me ro se ra si => by unfold Mok at hm; omega)]; rfl, b1.out⟩
        · rw [decide_eq_false h3] at k3
          go_enter Try.func5, Try.ntmps5
          go_wp2_with (first
              | (go_at_call 10; (with_reducible refine k0.mono ?_); rintro e w' ⟨rfl, hw⟩; obtain rfl := hw.symm; clear k0)
              | (go_at_call 11; (with_reducible refine k1.mono ?_); rintro e w' ⟨rfl, hw⟩; obtain rfl := hw.symm; clear k1)
              | (go_at_call 12; (with_reducible refine k2.mono ?_); rintro e w' ⟨rfl, hw⟩; obtain rfl := hw.symm; clear k2)
              | (go_at_call 12; (with_reducible refine k3.mono ?_); rintro e w' ⟨rfl, hw⟩; obtain rfl := hw.symm; clear k3)
              | (go_at_call 12; (with_reducible refine k4.mono ?_); rintro e w' ⟨rfl, hw⟩; obtain rfl := hw.symm; clear k4)
              | (go_at_call 12; (with_reducible refine k5.mono ?_); rintro e w' ⟨rfl, hw⟩; obtain rfl := hw.symm; clear k5))
          go_ret
          exact ⟨by rw [decide_eq_false (fun hm : Mok wi me ro se ra si => by unfold Mok at hm; omega)]; rfl, b1.out⟩
      · rw [decide_eq_false h2] at k2
        go_enter Try.func5, Try.ntmps5
        go_wp2_with (first
            | (go_at_call 10; (with_reducible refine k0.mono ?_); rintro e w' ⟨rfl, hw⟩; obtain rfl := hw.symm; clear k0)
            | (go_at_call 11; (with_reducible refine k1.mono ?_); rintro e w' ⟨rfl, hw⟩; obtain rfl := hw.symm; clear k1)
            | (go_at_call 12; (with_reducible refine k2.mono ?_); rintro e w' ⟨rfl, hw⟩; obtain rfl := hw.symm; clear k2)
            | (go_at_call 12; (with_reducible refine k3.mono ?_); rintro e w' ⟨rfl, hw⟩; obtain rfl := hw.symm; clear k3)
            | (go_at_call 12; (with_reducible refine k4.mono ?_); rintro e w' ⟨rfl, hw⟩; obtain rfl := hw.symm; clear k4)
            | (go_at_call 12; (with_reducible refine k5.mono ?_); rintro e w' ⟨rfl, hw⟩; obtain rfl := hw.symm; clear k5))
        go_ret
        exact ⟨by rw [decide_eq_false (fun hm : Mok wi me ro se ra si => by unfold Mok at hm; omega)]; rfl, b1.out⟩
    · rw [decide_eq_false h1] at k1
      go_enter Try.func5, Try.ntmps5
      go_wp2_with (first
          | (go_at_call 10; (with_reducible refine k0.mono ?_); rintro e w' ⟨rfl, hw⟩; obtain rfl := hw.symm; clear k0)
          | (go_at_call 11; (with_reducible refine k1.mono ?_); rintro e w' ⟨rfl, hw⟩; obtain rfl := hw.symm; clear k1)
          | (go_at_call 12; (with_reducible refine k2.mono ?_); rintro e w' ⟨rfl, hw⟩; obtain rfl := hw.symm; clear k2)
          | (go_at_call 12; (with_reducible refine k3.mono ?_); rintro e w' ⟨rfl, hw⟩; obtain rfl := hw.symm; clear k3)
          | (go_at_call 12; (with_reducible refine k4.mono ?_); rintro e w' ⟨rfl, hw⟩; obtain rfl := hw.symm; clear k4)
          | (go_at_call 12; (with_reducible refine k5.mono ?_); rintro e w' ⟨rfl, hw⟩; obtain rfl := hw.symm; clear k5))
      go_ret
      exact ⟨by rw [decide_eq_false (fun hm : Mok wi me ro se ra si => by unfold Mok at hm; omega)]; rfl, b1.out⟩
  · rw [decide_eq_false h0] at k0
    go_enter Try.func5, Try.ntmps5
    go_wp2_with (first
        | (go_at_call 10; (with_reducible refine k0.mono ?_); rintro e w' ⟨rfl, hw⟩; obtain rfl := hw.symm; clear k0)
        | (go_at_call 11; (with_reducible refine k1.mono ?_); rintro e w' ⟨rfl, hw⟩; obtain rfl := hw.symm; clear k1)
        | (go_at_call 12; (with_reducible refine k2.mono ?_); rintro e w' ⟨rfl, hw⟩; obtain rfl := hw.symm; clear k2)
        | (go_at_call 12; (with_reducible refine k3.mono ?_); rintro e w' ⟨rfl, hw⟩; obtain rfl := hw.symm; clear k3)
        | (go_at_call 12; (with_reducible refine k4.mono ?_); rintro e w' ⟨rfl, hw⟩; obtain rfl := hw.symm; clear k4)
        | (go_at_call 12; (with_reducible refine k5.mono ?_); rintro e w' ⟨rfl, hw⟩; obtain rfl := hw.symm; clear k5))
    go_ret
    exact ⟨by rw [decide_eq_false (fun hm : Mok wi me ro se ra si => by unfold Mok at hm; omega)]; rfl, b1.out⟩

theorem toM_any (wi me ro se ra si : Int) (w : World) : Calls Try.prog 6 #[.agg #[.int .i64 wi, .int .i64 me, .int .i64 ro, .int .i64 se, .int .i64 ra, .int .i64 si]] w fun e w' => e = .returned (.agg #[.int .i64 wi, .int .i64 me, .int .i64 ro, .int .i64 se, .int .i64 ra, .int .i64 si]) ∧ Below w.heap.size w w' := by
  go_enter Try.func6, Try.ntmps6
  go_wp2
  refine bodyPost_ret (v := .agg #[.int .i64 wi, .int .i64 me, .int .i64 ro, .int .i64 se, .int .i64 ra, .int .i64 si]) (by simp [results, Try.results6, go_sem]) rfl ?_
  refine ⟨rfl, ?_⟩
  repeat first
    | exact (below_one _ _)
    | (refine Below.setCell ?_ (by simp <;> omega) _)
    | (refine Below.alloc ?_ (by simp <;> omega) _)

/-- A modem's six fields in a block of their own. -/
structure R6 (W : World) (g : Nat) (wi me ro se ra si : Int) : Prop where
  c0 : W.cell? ⟨g, 0, none⟩ = some (.int .i64 wi)
  c1 : W.cell? ⟨g, 1, none⟩ = some (.int .i64 me)
  c2 : W.cell? ⟨g, 2, none⟩ = some (.int .i64 ro)
  c3 : W.cell? ⟨g, 3, none⟩ = some (.int .i64 se)
  c4 : W.cell? ⟨g, 4, none⟩ = some (.int .i64 ra)
  c5 : W.cell? ⟨g, 5, none⟩ = some (.int .i64 si)

theorem R6.new (w : World) (t : TypeId) (wi me ro se ra si : Int) : R6 (w.alloc (.cells #[.int .i64 wi, .int .i64 me, .int .i64 ro, .int .i64 se, .int .i64 ra, .int .i64 si] t)) w.heap.size wi me ro se ra si := ⟨by simp, by simp, by simp, by simp, by simp, by simp⟩

theorem R6.call {W W' : World} {g : Nat} {wi me ro se ra si : Int} (h : R6 W g wi me ro se ra si) (hb : Below W.heap.size W W') : R6 W' g wi me ro se ra si := by
  have hl : g < W.heap.size := World.block_lt_of_cell? W _ h.c0
  exact ⟨(hb.cell (p := ⟨g, 0, none⟩) hl).trans h.c0, (hb.cell (p := ⟨g, 1, none⟩) hl).trans h.c1, (hb.cell (p := ⟨g, 2, none⟩) hl).trans h.c2, (hb.cell (p := ⟨g, 3, none⟩) hl).trans h.c3, (hb.cell (p := ⟨g, 4, none⟩) hl).trans h.c4, (hb.cell (p := ⟨g, 5, none⟩) hl).trans h.c5⟩
end Go.Proofs.Ythdfhipijhbfcaa
