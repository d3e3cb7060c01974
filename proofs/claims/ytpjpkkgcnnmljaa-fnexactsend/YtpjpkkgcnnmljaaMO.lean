/- Modems that are ones. -/
import Derived.Test.YtpjpkkgcnnmljaaSE
namespace Go.Proofs.Ytpjpkkgcnnmljaa
open Go.RowKit

/-- A modem that is one. -/
def Mok (wi me ro se ra si : Int) : Prop := (wi = 2 ∨ wi = 4 ∨ wi = 6 ∨ wi = 8) ∧ (1 ≤ me ∧ me ≤ 8) ∧ (1 ≤ ro ∧ ro ≤ 64) ∧ (1 ≤ se ∧ se ≤ 65535) ∧ (1 ≤ ra ∧ ra ≤ 8) ∧ (1 ≤ si ∧ si ≤ 10000)
instance (wi me ro se ra si : Int) : Decidable (Mok wi me ro se ra si) := by unfold Mok; infer_instance

theorem count_any (x m : Int) (w : World) : Calls Try.prog 21 #[.int .i64 x, .int .i64 m] w fun e w' => e = .returned (.bool (decide (1 ≤ x ∧ x ≤ m))) ∧ w' = w := by
  go_enter Try.func21, Try.ntmps21
  by_cases h : 1 ≤ x
  · by_cases h1 : x ≤ m
    · go_wp2
      go_ret
      exact ⟨by simp [h, h1], rfl⟩
    · go_wp2
      go_ret
      exact ⟨by simp [h1], rfl⟩
  · go_wp2
    go_ret
    exact ⟨by simp; omega, rfl⟩

theorem pw_any (x : Int) (w : World) : Calls Try.prog 37 #[.int .i64 x] w fun e w' => e = .returned (.bool (decide (x = 2 ∨ x = 4 ∨ x = 6 ∨ x = 8))) ∧ w' = w := by
  go_enter Try.func37, Try.ntmps37
  by_cases h : 2 ≤ x
  · by_cases h1 : x ≤ 8
    · have hx : x.tmod 2 = x % 2 := Int.tmod_eq_emod_of_nonneg (by omega)
      by_cases h2 : x % 2 = 0
      · go_wp2
        go_ret
        refine ⟨?_, rfl⟩
        exact congrArg (fun z => Ending.returned (.bool z)) (by have : x = 2 ∨ x = 4 ∨ x = 6 ∨ x = 8 := by omega
                                                                rcases this with rfl | rfl | rfl | rfl <;> decide)
      · go_wp2
        go_ret
        refine ⟨?_, rfl⟩
        exact congrArg (fun z => Ending.returned (.bool z)) (by rw [decide_eq_false (show ¬ (x = 2 ∨ x = 4 ∨ x = 6 ∨ x = 8) by omega)]; simp [h2]; try omega)
    · go_wp2
      go_ret
      exact ⟨by simp; omega, rfl⟩
  · go_wp2
    go_ret
    exact ⟨by simp; omega, rfl⟩

theorem mend_any (x : Int) (w : World) : Calls Try.prog 38 #[.int .i64 x] w fun e w' => e = .returned (.bool (decide (1 ≤ x ∧ x ≤ 8))) ∧ w' = w := by
  go_enter Try.func38, Try.ntmps38
  by_cases h : 1 ≤ x
  · by_cases h1 : x ≤ 8
    · go_wp2
      go_ret
      exact ⟨by simp [h, h1], rfl⟩
    · go_wp2
      go_ret
      exact ⟨by simp [h1], rfl⟩
  · go_wp2
    go_ret
    exact ⟨by simp; omega, rfl⟩

theorem in_one (x lo hi : Int) (w : World) : Calls Try.prog 14 #[.int .i64 x, .int .i64 lo, .int .i64 hi] w fun e w' => e = .returned (.bool (decide (lo ≤ x ∧ x ≤ hi))) ∧ w' = w := by
  go_enter Try.func14, Try.ntmps14
  by_cases h : lo ≤ x
  · by_cases h1 : x ≤ hi
    · go_wp2
      go_ret
      exact ⟨by simp [h, h1], rfl⟩
    · go_wp2
      go_ret
      exact ⟨by simp [h1], rfl⟩
  · go_wp2
    go_ret
    exact ⟨by simp; omega, rfl⟩

theorem spw_any (x : Int) (w : World) : Calls Try.prog 30 #[.int .i64 x] w fun e w' => e = .returned (.bool (decide (x = 2 ∨ x = 4 ∨ x = 6 ∨ x = 8))) ∧ w' = w := by
  go_enter Try.func30, Try.ntmps30
  by_cases h : x = 2
  · go_wp2
    go_ret
    exact ⟨by simp [h], rfl⟩
  · by_cases h1 : x = 4
    · go_wp2
      go_ret
      exact ⟨by simp [h1], rfl⟩
    · by_cases h2 : x = 6
      · go_wp2
        go_ret
        exact ⟨by simp [h2], rfl⟩
      · by_cases h3 : x = 8
        · go_wp2
          go_ret
          exact ⟨by simp [h3], rfl⟩
        · go_wp2
          go_ret
          exact ⟨by simp [h, h1, h2, h3], rfl⟩

theorem smend_any (x : Int) (w : World) : Calls Try.prog 31 #[.int .i64 x] w fun e w' => e = .returned (.bool (decide (1 ≤ x ∧ x ≤ 8))) ∧ w' = w := by
  go_enter Try.func31, Try.ntmps31
  go_wp2_with (go_at_call 14; (with_reducible refine (in_one x 1 8 w).mono ?_); rintro e w' ⟨rfl, hw⟩; obtain rfl := hw.symm)
  go_ret
  exact ⟨congrArg (fun z => Ending.returned (.bool z)) (by simp), rfl⟩

theorem iMok_any (wi me ro se ra si : Int) (w : World) : Calls Try.prog 20 #[.agg #[.int .i64 wi, .int .i64 me, .int .i64 ro, .int .i64 se, .int .i64 ra, .int .i64 si]] w fun e w' => e = .returned (.bool (decide (Mok wi me ro se ra si))) ∧ Below w.heap.size w w' := by
  have b1 : Hid (Below w.heap.size w (w.alloc (.cells #[.int .i64 wi, .int .i64 me, .int .i64 ro, .int .i64 se, .int .i64 ra, .int .i64 si] 28))) := below_one w _
  have k0 := pw_any wi (w.alloc (.cells #[.int .i64 wi, .int .i64 me, .int .i64 ro, .int .i64 se, .int .i64 ra, .int .i64 si] 28))
  have k1 := mend_any me (w.alloc (.cells #[.int .i64 wi, .int .i64 me, .int .i64 ro, .int .i64 se, .int .i64 ra, .int .i64 si] 28))
  have k2 := count_any ro 64 (w.alloc (.cells #[.int .i64 wi, .int .i64 me, .int .i64 ro, .int .i64 se, .int .i64 ra, .int .i64 si] 28))
  have k3 := count_any se 65535 (w.alloc (.cells #[.int .i64 wi, .int .i64 me, .int .i64 ro, .int .i64 se, .int .i64 ra, .int .i64 si] 28))
  have k4 := count_any ra 8 (w.alloc (.cells #[.int .i64 wi, .int .i64 me, .int .i64 ro, .int .i64 se, .int .i64 ra, .int .i64 si] 28))
  have k5 := count_any si 10000 (w.alloc (.cells #[.int .i64 wi, .int .i64 me, .int .i64 ro, .int .i64 se, .int .i64 ra, .int .i64 si] 28))
  by_cases h0 : wi = 2 ∨ wi = 4 ∨ wi = 6 ∨ wi = 8
  · rw [decide_eq_true h0] at k0
    by_cases h1 : 1 ≤ me ∧ me ≤ 8
    · rw [decide_eq_true h1] at k1
      by_cases h2 : 1 ≤ ro ∧ ro ≤ 64
      · rw [decide_eq_true h2] at k2
        by_cases h3 : 1 ≤ se ∧ se ≤ 65535
        · rw [decide_eq_true h3] at k3
          by_cases h4 : 1 ≤ ra ∧ ra ≤ 8
          · rw [decide_eq_true h4] at k4
            by_cases h5 : 1 ≤ si ∧ si ≤ 10000
            · rw [decide_eq_true h5] at k5
              go_enter Try.func20, Try.ntmps20
              go_wp2_with (first
                  | (go_at_call 37; (with_reducible refine k0.mono ?_); rintro e w' ⟨rfl, hw⟩; obtain rfl := hw.symm; clear k0)
                  | (go_at_call 38; (with_reducible refine k1.mono ?_); rintro e w' ⟨rfl, hw⟩; obtain rfl := hw.symm; clear k1)
                  | (go_at_call 21; (with_reducible refine k2.mono ?_); rintro e w' ⟨rfl, hw⟩; obtain rfl := hw.symm; clear k2)
                  | (go_at_call 21; (with_reducible refine k3.mono ?_); rintro e w' ⟨rfl, hw⟩; obtain rfl := hw.symm; clear k3)
                  | (go_at_call 21; (with_reducible refine k4.mono ?_); rintro e w' ⟨rfl, hw⟩; obtain rfl := hw.symm; clear k4)
                  | (go_at_call 21; (with_reducible refine k5.mono ?_); rintro e w' ⟨rfl, hw⟩; obtain rfl := hw.symm; clear k5))
              go_ret
              exact ⟨by rw [decide_eq_true (show Mok wi me ro se ra si from ⟨h0, h1, h2, h3, h4, h5⟩)]; rfl, b1.out⟩
            · rw [decide_eq_false h5] at k5
              go_enter Try.func20, Try.ntmps20
              go_wp2_with (first
                  | (go_at_call 37; (with_reducible refine k0.mono ?_); rintro e w' ⟨rfl, hw⟩; obtain rfl := hw.symm; clear k0)
                  | (go_at_call 38; (with_reducible refine k1.mono ?_); rintro e w' ⟨rfl, hw⟩; obtain rfl := hw.symm; clear k1)
                  | (go_at_call 21; (with_reducible refine k2.mono ?_); rintro e w' ⟨rfl, hw⟩; obtain rfl := hw.symm; clear k2)
                  | (go_at_call 21; (with_reducible refine k3.mono ?_); rintro e w' ⟨rfl, hw⟩; obtain rfl := hw.symm; clear k3)
                  | (go_at_call 21; (with_reducible refine k4.mono ?_); rintro e w' ⟨rfl, hw⟩; obtain rfl := hw.symm; clear k4)
                  | (go_at_call 21; (with_reducible refine k5.mono ?_); rintro e w' ⟨rfl, hw⟩; obtain rfl := hw.symm; clear k5))
              go_ret
              exact ⟨by rw [decide_eq_false (fun hm : Mok wi me ro se ra si => by unfold Mok at hm; omega)]; rfl, b1.out⟩
          · rw [decide_eq_false h4] at k4
            go_enter Try.func20, Try.ntmps20
            go_wp2_with (first
                | (go_at_call 37; (with_reducible refine k0.mono ?_); rintro e w' ⟨rfl, hw⟩; obtain rfl := hw.symm; clear k0)
                | (go_at_call 38; (with_reducible refine k1.mono ?_); rintro e w' ⟨rfl, hw⟩; obtain rfl := hw.symm; clear k1)
                | (go_at_call 21; (with_reducible refine k2.mono ?_); rintro e w' ⟨rfl, hw⟩; obtain rfl := hw.symm; clear k2)
                | (go_at_call 21; (with_reducible refine k3.mono ?_); rintro e w' ⟨rfl, hw⟩; obtain rfl := hw.symm; clear k3)
                | (go_at_call 21; (with_reducible refine k4.mono ?_); rintro e w' ⟨rfl, hw⟩; obtain rfl := hw.symm; clear k4)
                | (go_at_call 21; (with_reducible refine k5.mono ?_); rintro e w' ⟨rfl, hw⟩; obtain rfl := hw.symm; clear k5))
            go_ret
            exact ⟨by rw [decide_eq_false (fun hm : Mok wi me ro se ra si => by unfold Mok at hm; omega)]; rfl, b1.out⟩
        · rw [decide_eq_false h3] at k3
          go_enter Try.func20, Try.ntmps20
          go_wp2_with (first
              | (go_at_call 37; (with_reducible refine k0.mono ?_); rintro e w' ⟨rfl, hw⟩; obtain rfl := hw.symm; clear k0)
              | (go_at_call 38; (with_reducible refine k1.mono ?_); rintro e w' ⟨rfl, hw⟩; obtain rfl := hw.symm; clear k1)
              | (go_at_call 21; (with_reducible refine k2.mono ?_); rintro e w' ⟨rfl, hw⟩; obtain rfl := hw.symm; clear k2)
              | (go_at_call 21; (with_reducible refine k3.mono ?_); rintro e w' ⟨rfl, hw⟩; obtain rfl := hw.symm; clear k3)
              | (go_at_call 21; (with_reducible refine k4.mono ?_); rintro e w' ⟨rfl, hw⟩; obtain rfl := hw.symm; clear k4)
              | (go_at_call 21; (with_reducible refine k5.mono ?_); rintro e w' ⟨rfl, hw⟩; obtain rfl := hw.symm; clear k5))
          go_ret
          exact ⟨by rw [decide_eq_false (fun hm : Mok wi me ro se ra si => by unfold Mok at hm; omega)]; rfl, b1.out⟩
      · rw [decide_eq_false h2] at k2
        go_enter Try.func20, Try.ntmps20
        go_wp2_with (first
            | (go_at_call 37; (with_reducible refine k0.mono ?_); rintro e w' ⟨rfl, hw⟩; obtain rfl := hw.symm; clear k0)
            | (go_at_call 38; (with_reducible refine k1.mono ?_); rintro e w' ⟨rfl, hw⟩; obtain rfl := hw.symm; clear k1)
            | (go_at_call 21; (with_reducible refine k2.mono ?_); rintro e w' ⟨rfl, hw⟩; obtain rfl := hw.symm; clear k2)
            | (go_at_call 21; (with_reducible refine k3.mono ?_); rintro e w' ⟨rfl, hw⟩; obtain rfl := hw.symm; clear k3)
            | (go_at_call 21; (with_reducible refine k4.mono ?_); rintro e w' ⟨rfl, hw⟩; obtain rfl := hw.symm; clear k4)
            | (go_at_call 21; (with_reducible refine k5.mono ?_); rintro e w' ⟨rfl, hw⟩; obtain rfl := hw.symm; clear k5))
        go_ret
        exact ⟨by rw [decide_eq_false (fun hm : Mok wi me ro se ra si => by unfold Mok at hm; omega)]; rfl, b1.out⟩
    · rw [decide_eq_false h1] at k1
      go_enter Try.func20, Try.ntmps20
      go_wp2_with (first
          | (go_at_call 37; (with_reducible refine k0.mono ?_); rintro e w' ⟨rfl, hw⟩; obtain rfl := hw.symm; clear k0)
          | (go_at_call 38; (with_reducible refine k1.mono ?_); rintro e w' ⟨rfl, hw⟩; obtain rfl := hw.symm; clear k1)
          | (go_at_call 21; (with_reducible refine k2.mono ?_); rintro e w' ⟨rfl, hw⟩; obtain rfl := hw.symm; clear k2)
          | (go_at_call 21; (with_reducible refine k3.mono ?_); rintro e w' ⟨rfl, hw⟩; obtain rfl := hw.symm; clear k3)
          | (go_at_call 21; (with_reducible refine k4.mono ?_); rintro e w' ⟨rfl, hw⟩; obtain rfl := hw.symm; clear k4)
          | (go_at_call 21; (with_reducible refine k5.mono ?_); rintro e w' ⟨rfl, hw⟩; obtain rfl := hw.symm; clear k5))
      go_ret
      exact ⟨by rw [decide_eq_false (fun hm : Mok wi me ro se ra si => by unfold Mok at hm; omega)]; rfl, b1.out⟩
  · rw [decide_eq_false h0] at k0
    go_enter Try.func20, Try.ntmps20
    go_wp2_with (first
        | (go_at_call 37; (with_reducible refine k0.mono ?_); rintro e w' ⟨rfl, hw⟩; obtain rfl := hw.symm; clear k0)
        | (go_at_call 38; (with_reducible refine k1.mono ?_); rintro e w' ⟨rfl, hw⟩; obtain rfl := hw.symm; clear k1)
        | (go_at_call 21; (with_reducible refine k2.mono ?_); rintro e w' ⟨rfl, hw⟩; obtain rfl := hw.symm; clear k2)
        | (go_at_call 21; (with_reducible refine k3.mono ?_); rintro e w' ⟨rfl, hw⟩; obtain rfl := hw.symm; clear k3)
        | (go_at_call 21; (with_reducible refine k4.mono ?_); rintro e w' ⟨rfl, hw⟩; obtain rfl := hw.symm; clear k4)
        | (go_at_call 21; (with_reducible refine k5.mono ?_); rintro e w' ⟨rfl, hw⟩; obtain rfl := hw.symm; clear k5))
    go_ret
    exact ⟨by rw [decide_eq_false (fun hm : Mok wi me ro se ra si => by unfold Mok at hm; omega)]; rfl, b1.out⟩

theorem sMok_any (wi me ro se ra si : Int) (w : World) : Calls Try.prog 13 #[.agg #[.int .i64 wi, .int .i64 me, .int .i64 ro, .int .i64 se, .int .i64 ra, .int .i64 si]] w fun e w' => e = .returned (.bool (decide (Mok wi me ro se ra si))) ∧ Below w.heap.size w w' := by
  have b1 : Hid (Below w.heap.size w (w.alloc (.cells #[.int .i64 wi, .int .i64 me, .int .i64 ro, .int .i64 se, .int .i64 ra, .int .i64 si] 28))) := below_one w _
  have k0 := spw_any wi (w.alloc (.cells #[.int .i64 wi, .int .i64 me, .int .i64 ro, .int .i64 se, .int .i64 ra, .int .i64 si] 28))
  have k1 := smend_any me (w.alloc (.cells #[.int .i64 wi, .int .i64 me, .int .i64 ro, .int .i64 se, .int .i64 ra, .int .i64 si] 28))
  have k2 := in_one ro 1 64 (w.alloc (.cells #[.int .i64 wi, .int .i64 me, .int .i64 ro, .int .i64 se, .int .i64 ra, .int .i64 si] 28))
  have k3 := in_one se 1 65535 (w.alloc (.cells #[.int .i64 wi, .int .i64 me, .int .i64 ro, .int .i64 se, .int .i64 ra, .int .i64 si] 28))
  have k4 := in_one ra 1 8 (w.alloc (.cells #[.int .i64 wi, .int .i64 me, .int .i64 ro, .int .i64 se, .int .i64 ra, .int .i64 si] 28))
  have k5 := in_one si 1 10000 (w.alloc (.cells #[.int .i64 wi, .int .i64 me, .int .i64 ro, .int .i64 se, .int .i64 ra, .int .i64 si] 28))
  by_cases h0 : wi = 2 ∨ wi = 4 ∨ wi = 6 ∨ wi = 8
  · rw [decide_eq_true h0] at k0
    by_cases h1 : 1 ≤ me ∧ me ≤ 8
    · rw [decide_eq_true h1] at k1
      by_cases h2 : 1 ≤ ro ∧ ro ≤ 64
      · rw [decide_eq_true h2] at k2
        by_cases h3 : 1 ≤ se ∧ se ≤ 65535
        · rw [decide_eq_true h3] at k3
          by_cases h4 : 1 ≤ ra ∧ ra ≤ 8
          · rw [decide_eq_true h4] at k4
            by_cases h5 : 1 ≤ si ∧ si ≤ 10000
            · rw [decide_eq_true h5] at k5
              go_enter Try.func13, Try.ntmps13
              go_wp2_with (first
                  | (go_at_call 30; (with_reducible refine k0.mono ?_); rintro e w' ⟨rfl, hw⟩; obtain rfl := hw.symm; clear k0)
                  | (go_at_call 31; (with_reducible refine k1.mono ?_); rintro e w' ⟨rfl, hw⟩; obtain rfl := hw.symm; clear k1)
                  | (go_at_call 14; (with_reducible refine k2.mono ?_); rintro e w' ⟨rfl, hw⟩; obtain rfl := hw.symm; clear k2)
                  | (go_at_call 14; (with_reducible refine k3.mono ?_); rintro e w' ⟨rfl, hw⟩; obtain rfl := hw.symm; clear k3)
                  | (go_at_call 14; (with_reducible refine k4.mono ?_); rintro e w' ⟨rfl, hw⟩; obtain rfl := hw.symm; clear k4)
                  | (go_at_call 14; (with_reducible refine k5.mono ?_); rintro e w' ⟨rfl, hw⟩; obtain rfl := hw.symm; clear k5))
              go_ret
              exact ⟨by rw [decide_eq_true (show Mok wi me ro se ra si from ⟨h0, h1, h2, h3, h4, h5⟩)]; rfl, b1.out⟩
            · rw [decide_eq_false h5] at k5
              go_enter Try.func13, Try.ntmps13
              go_wp2_with (first
                  | (go_at_call 30; (with_reducible refine k0.mono ?_); rintro e w' ⟨rfl, hw⟩; obtain rfl := hw.symm; clear k0)
                  | (go_at_call 31; (with_reducible refine k1.mono ?_); rintro e w' ⟨rfl, hw⟩; obtain rfl := hw.symm; clear k1)
                  | (go_at_call 14; (with_reducible refine k2.mono ?_); rintro e w' ⟨rfl, hw⟩; obtain rfl := hw.symm; clear k2)
                  | (go_at_call 14; (with_reducible refine k3.mono ?_); rintro e w' ⟨rfl, hw⟩; obtain rfl := hw.symm; clear k3)
                  | (go_at_call 14; (with_reducible refine k4.mono ?_); rintro e w' ⟨rfl, hw⟩; obtain rfl := hw.symm; clear k4)
                  | (go_at_call 14; (with_reducible refine k5.mono ?_); rintro e w' ⟨rfl, hw⟩; obtain rfl := hw.symm; clear k5))
              go_ret
              exact ⟨by rw [decide_eq_false (fun hm : Mok wi me ro se ra si => by unfold Mok at hm; omega)]; rfl, b1.out⟩
          · rw [decide_eq_false h4] at k4
            go_enter Try.func13, Try.ntmps13
            go_wp2_with (first
                | (go_at_call 30; (with_reducible refine k0.mono ?_); rintro e w' ⟨rfl, hw⟩; obtain rfl := hw.symm; clear k0)
                | (go_at_call 31; (with_reducible refine k1.mono ?_); rintro e w' ⟨rfl, hw⟩; obtain rfl := hw.symm; clear k1)
                | (go_at_call 14; (with_reducible refine k2.mono ?_); rintro e w' ⟨rfl, hw⟩; obtain rfl := hw.symm; clear k2)
                | (go_at_call 14; (with_reducible refine k3.mono ?_); rintro e w' ⟨rfl, hw⟩; obtain rfl := hw.symm; clear k3)
                | (go_at_call 14; (with_reducible refine k4.mono ?_); rintro e w' ⟨rfl, hw⟩; obtain rfl := hw.symm; clear k4)
                | (go_at_call 14; (with_reducible refine k5.mono ?_); rintro e w' ⟨rfl, hw⟩; obtain rfl := hw.symm; clear k5))
            go_ret
            exact ⟨by rw [decide_eq_false (fun hm : Mok wi me ro se ra si => by unfold Mok at hm; omega)]; rfl, b1.out⟩
        · rw [decide_eq_false h3] at k3
          go_enter Try.func13, Try.ntmps13
          go_wp2_with (first
              | (go_at_call 30; (with_reducible refine k0.mono ?_); rintro e w' ⟨rfl, hw⟩; obtain rfl := hw.symm; clear k0)
              | (go_at_call 31; (with_reducible refine k1.mono ?_); rintro e w' ⟨rfl, hw⟩; obtain rfl := hw.symm; clear k1)
              | (go_at_call 14; (with_reducible refine k2.mono ?_); rintro e w' ⟨rfl, hw⟩; obtain rfl := hw.symm; clear k2)
              | (go_at_call 14; (with_reducible refine k3.mono ?_); rintro e w' ⟨rfl, hw⟩; obtain rfl := hw.symm; clear k3)
              | (go_at_call 14; (with_reducible refine k4.mono ?_); rintro e w' ⟨rfl, hw⟩; obtain rfl := hw.symm; clear k4)
              | (go_at_call 14; (with_reducible refine k5.mono ?_); rintro e w' ⟨rfl, hw⟩; obtain rfl := hw.symm; clear k5))
          go_ret
          exact ⟨by rw [decide_eq_false (fun hm : Mok wi me ro se ra si => by unfold Mok at hm; omega)]; rfl, b1.out⟩
      · rw [decide_eq_false h2] at k2
        go_enter Try.func13, Try.ntmps13
        go_wp2_with (first
            | (go_at_call 30; (with_reducible refine k0.mono ?_); rintro e w' ⟨rfl, hw⟩; obtain rfl := hw.symm; clear k0)
            | (go_at_call 31; (with_reducible refine k1.mono ?_); rintro e w' ⟨rfl, hw⟩; obtain rfl := hw.symm; clear k1)
            | (go_at_call 14; (with_reducible refine k2.mono ?_); rintro e w' ⟨rfl, hw⟩; obtain rfl := hw.symm; clear k2)
            | (go_at_call 14; (with_reducible refine k3.mono ?_); rintro e w' ⟨rfl, hw⟩; obtain rfl := hw.symm; clear k3)
            | (go_at_call 14; (with_reducible refine k4.mono ?_); rintro e w' ⟨rfl, hw⟩; obtain rfl := hw.symm; clear k4)
            | (go_at_call 14; (with_reducible refine k5.mono ?_); rintro e w' ⟨rfl, hw⟩; obtain rfl := hw.symm; clear k5))
        go_ret
        exact ⟨by rw [decide_eq_false (fun hm : Mok wi me ro se ra si => by unfold Mok at hm; omega)]; rfl, b1.out⟩
    · rw [decide_eq_false h1] at k1
      go_enter Try.func13, Try.ntmps13
      go_wp2_with (first
          | (go_at_call 30; (with_reducible refine k0.mono ?_); rintro e w' ⟨rfl, hw⟩; obtain rfl := hw.symm; clear k0)
          | (go_at_call 31; (with_reducible refine k1.mono ?_); rintro e w' ⟨rfl, hw⟩; obtain rfl := hw.symm; clear k1)
          | (go_at_call 14; (with_reducible refine k2.mono ?_); rintro e w' ⟨rfl, hw⟩; obtain rfl := hw.symm; clear k2)
          | (go_at_call 14; (with_reducible refine k3.mono ?_); rintro e w' ⟨rfl, hw⟩; obtain rfl := hw.symm; clear k3)
          | (go_at_call 14; (with_reducible refine k4.mono ?_); rintro e w' ⟨rfl, hw⟩; obtain rfl := hw.symm; clear k4)
          | (go_at_call 14; (with_reducible refine k5.mono ?_); rintro e w' ⟨rfl, hw⟩; obtain rfl := hw.symm; clear k5))
      go_ret
      exact ⟨by rw [decide_eq_false (fun hm : Mok wi me ro se ra si => by unfold Mok at hm; omega)]; rfl, b1.out⟩
  · rw [decide_eq_false h0] at k0
    go_enter Try.func13, Try.ntmps13
    go_wp2_with (first
        | (go_at_call 30; (with_reducible refine k0.mono ?_); rintro e w' ⟨rfl, hw⟩; obtain rfl := hw.symm; clear k0)
        | (go_at_call 31; (with_reducible refine k1.mono ?_); rintro e w' ⟨rfl, hw⟩; obtain rfl := hw.symm; clear k1)
        | (go_at_call 14; (with_reducible refine k2.mono ?_); rintro e w' ⟨rfl, hw⟩; obtain rfl := hw.symm; clear k2)
        | (go_at_call 14; (with_reducible refine k3.mono ?_); rintro e w' ⟨rfl, hw⟩; obtain rfl := hw.symm; clear k3)
        | (go_at_call 14; (with_reducible refine k4.mono ?_); rintro e w' ⟨rfl, hw⟩; obtain rfl := hw.symm; clear k4)
        | (go_at_call 14; (with_reducible refine k5.mono ?_); rintro e w' ⟨rfl, hw⟩; obtain rfl := hw.symm; clear k5))
    go_ret
    exact ⟨by rw [decide_eq_false (fun hm : Mok wi me ro se ra si => by unfold Mok at hm; omega)]; rfl, b1.out⟩
end Go.Proofs.Ytpjpkkgcnnmljaa
