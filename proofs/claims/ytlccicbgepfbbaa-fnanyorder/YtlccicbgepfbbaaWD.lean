/- Wires that are right. -/
import Derived.Test.YtlccicbgepfbbaaWB
namespace Go.Proofs.Ytlccicbgepfbbaa
open Go.RowKit

/-- A wire of n blocks. -/
def Wgd (n : Int) (s : Wr) : Prop := (0 ≤ s.fr ∧ s.fr ≤ n - 1) ∧ (0 ≤ s.to ∧ s.to ≤ n - 1) ∧ (1 ≤ s.gi ∧ s.gi ≤ 64) ∧ (1 ≤ s.ta ∧ s.ta ≤ 64) ∧ (0 ≤ s.ha ∧ s.ha ≤ 1000)
instance (n : Int) (s : Wr) : Decidable (Wgd n s) := by unfold Wgd; infer_instance

/-- Wires for n blocks. -/
def Wok (n : Int) (k : Nat) (ss : Nat → Wr) : Prop := (1 ≤ n ∧ n ≤ 20) ∧ k ≤ 40 ∧ ∀ i, i < k → Wgd n (ss i)

theorem upto_any (x m : Int) (w : World) : Calls Try.prog 75 #[.int .i64 x, .int .i64 m] w fun e w' => e = .returned (.bool (decide (0 ≤ x ∧ x ≤ m))) ∧ w' = w := by
  go_enter Try.func75, Try.ntmps75
  by_cases h : 0 ≤ x
  · by_cases h1 : x ≤ m
    · go_wp2
      go_ret
      exact ⟨by simp [h, h1], rfl⟩
    · go_wp2
      go_ret
      exact ⟨by simp [h1], rfl⟩
  · go_wp2
    go_ret
    exact ⟨by simp; omega, rfl⟩

theorem count_any (x m : Int) (w : World) : Calls Try.prog 62 #[.int .i64 x, .int .i64 m] w fun e w' => e = .returned (.bool (decide (1 ≤ x ∧ x ≤ m))) ∧ w' = w := by
  go_enter Try.func62, Try.ntmps62
  by_cases h : 1 ≤ x
  · by_cases h1 : x ≤ m
    · go_wp2
      go_ret
      exact ⟨by simp [h, h1], rfl⟩
    · go_wp2
      go_ret
      exact ⟨by simp [h1], rfl⟩
  · go_wp2
    go_ret
    exact ⟨by simp; omega, rfl⟩

theorem in_one (x lo hi : Int) (w : World) : Calls Try.prog 60 #[.int .i64 x, .int .i64 lo, .int .i64 hi] w fun e w' => e = .returned (.bool (decide (lo ≤ x ∧ x ≤ hi))) ∧ w' = w := by
  go_enter Try.func60, Try.ntmps60
  by_cases h : lo ≤ x
  · by_cases h1 : x ≤ hi
    · go_wp2
      go_ret
      exact ⟨by simp [h, h1], rfl⟩
    · go_wp2
      go_ret
      exact ⟨by simp [h1], rfl⟩
  · go_wp2
    go_ret
    exact ⟨by simp; omega, rfl⟩

theorem block_any (n x : Int) (hn : 1 ≤ n ∧ n ≤ 20) (w : World) : Calls Try.prog 50 #[.int .i64 n, .int .i64 x] w fun e w' => e = .returned (.bool (decide (0 ≤ x ∧ x ≤ n - 1))) ∧ w' = w := by
  obtain ⟨d, hd⟩ : ∃ d, d = decide (0 ≤ x ∧ x ≤ n - 1) := ⟨_, rfl⟩
  have i1 := upto_any x (n - 1) w
  rw [← hd] at i1 ⊢
  clear hd
  go_enter Try.func50, Try.ntmps50
  go_wp2_with (go_at_call 75; (with_reducible refine (i1).mono ?_); rintro e w' ⟨rfl, hw⟩; obtain rfl := hw.symm)
  go_ret
  exact ⟨rfl, rfl⟩

set_option maxHeartbeats 2000000 in
theorem iwire_any (n : Int) (s : Wr) (hn : 1 ≤ n ∧ n ≤ 20) (w : World) : Calls Try.prog 63 #[.int .i64 n, s.v] w fun e w' => e = .returned (.bool (decide (Wgd n s))) ∧ Below w.heap.size w w' := by
  have BW : Hid (Below w.heap.size w (s.w w)) := below_one w _
  have k0 := block_any n s.fr hn (s.w w)
  have k1 := block_any n s.to hn (s.w w)
  have k2 := count_any s.gi 64 (s.w w)
  have k3 := count_any s.ta 64 (s.w w)
  have k4 := upto_any s.ha 1000 (s.w w)
  by_cases h0 : 0 ≤ s.fr ∧ s.fr ≤ n - 1
  · rw [decide_eq_true h0] at k0
    by_cases h1 : 0 ≤ s.to ∧ s.to ≤ n - 1
    · rw [decide_eq_true h1] at k1
      by_cases h2 : 1 ≤ s.gi ∧ s.gi ≤ 64
      · rw [decide_eq_true h2] at k2
        by_cases h3 : 1 ≤ s.ta ∧ s.ta ≤ 64
        · rw [decide_eq_true h3] at k3
          by_cases h4 : 0 ≤ s.ha ∧ s.ha ≤ 1000
          · rw [decide_eq_true h4] at k4
            go_enter Try.func63, Try.ntmps63
            go_wp2_with (first
                            | (go_at_call 50; (with_reducible refine k0.mono ?_); rintro e w' ⟨rfl, hw⟩; obtain rfl := hw.symm; clear k0)
                            | (go_at_call 50; (with_reducible refine k1.mono ?_); rintro e w' ⟨rfl, hw⟩; obtain rfl := hw.symm; clear k1)
                            | (go_at_call 62; (with_reducible refine k2.mono ?_); rintro e w' ⟨rfl, hw⟩; obtain rfl := hw.symm; clear k2)
                            | (go_at_call 62; (with_reducible refine k3.mono ?_); rintro e w' ⟨rfl, hw⟩; obtain rfl := hw.symm; clear k3)
                            | (go_at_call 75; (with_reducible refine k4.mono ?_); rintro e w' ⟨rfl, hw⟩; obtain rfl := hw.symm; clear k4))
            go_ret
            rw [show decide (Wgd n s) = true from decide_eq_true ⟨h0, h1, h2, h3, h4⟩]; exact ⟨rfl, BW.out⟩
          · rw [decide_eq_false h4] at k4
            go_enter Try.func63, Try.ntmps63
            go_wp2_with (first
                            | (go_at_call 50; (with_reducible refine k0.mono ?_); rintro e w' ⟨rfl, hw⟩; obtain rfl := hw.symm; clear k0)
                            | (go_at_call 50; (with_reducible refine k1.mono ?_); rintro e w' ⟨rfl, hw⟩; obtain rfl := hw.symm; clear k1)
                            | (go_at_call 62; (with_reducible refine k2.mono ?_); rintro e w' ⟨rfl, hw⟩; obtain rfl := hw.symm; clear k2)
                            | (go_at_call 62; (with_reducible refine k3.mono ?_); rintro e w' ⟨rfl, hw⟩; obtain rfl := hw.symm; clear k3)
                            | (go_at_call 75; (with_reducible refine k4.mono ?_); rintro e w' ⟨rfl, hw⟩; obtain rfl := hw.symm; clear k4))
            go_ret
            rw [show decide (Wgd n s) = false from decide_eq_false (fun h => h4 h.2.2.2.2)]; exact ⟨rfl, BW.out⟩
        · rw [decide_eq_false h3] at k3
          go_enter Try.func63, Try.ntmps63
          go_wp2_with (first
                        | (go_at_call 50; (with_reducible refine k0.mono ?_); rintro e w' ⟨rfl, hw⟩; obtain rfl := hw.symm; clear k0)
                        | (go_at_call 50; (with_reducible refine k1.mono ?_); rintro e w' ⟨rfl, hw⟩; obtain rfl := hw.symm; clear k1)
                        | (go_at_call 62; (with_reducible refine k2.mono ?_); rintro e w' ⟨rfl, hw⟩; obtain rfl := hw.symm; clear k2)
                        | (go_at_call 62; (with_reducible refine k3.mono ?_); rintro e w' ⟨rfl, hw⟩; obtain rfl := hw.symm; clear k3))
          go_ret
          rw [show decide (Wgd n s) = false from decide_eq_false (fun h => h3 h.2.2.2.1)]; exact ⟨rfl, BW.out⟩
      · rw [decide_eq_false h2] at k2
        go_enter Try.func63, Try.ntmps63
        go_wp2_with (first
                    | (go_at_call 50; (with_reducible refine k0.mono ?_); rintro e w' ⟨rfl, hw⟩; obtain rfl := hw.symm; clear k0)
                    | (go_at_call 50; (with_reducible refine k1.mono ?_); rintro e w' ⟨rfl, hw⟩; obtain rfl := hw.symm; clear k1)
                    | (go_at_call 62; (with_reducible refine k2.mono ?_); rintro e w' ⟨rfl, hw⟩; obtain rfl := hw.symm; clear k2))
        go_ret
        rw [show decide (Wgd n s) = false from decide_eq_false (fun h => h2 h.2.2.1)]; exact ⟨rfl, BW.out⟩
    · rw [decide_eq_false h1] at k1
      go_enter Try.func63, Try.ntmps63
      go_wp2_with (first
                | (go_at_call 50; (with_reducible refine k0.mono ?_); rintro e w' ⟨rfl, hw⟩; obtain rfl := hw.symm; clear k0)
                | (go_at_call 50; (with_reducible refine k1.mono ?_); rintro e w' ⟨rfl, hw⟩; obtain rfl := hw.symm; clear k1))
      go_ret
      rw [show decide (Wgd n s) = false from decide_eq_false (fun h => h1 h.2.1)]; exact ⟨rfl, BW.out⟩
  · rw [decide_eq_false h0] at k0
    go_enter Try.func63, Try.ntmps63
    go_wp2_with (first
            | (go_at_call 50; (with_reducible refine k0.mono ?_); rintro e w' ⟨rfl, hw⟩; obtain rfl := hw.symm; clear k0))
    go_ret
    rw [show decide (Wgd n s) = false from decide_eq_false (fun h => h0 h.1)]; exact ⟨rfl, BW.out⟩
end Go.Proofs.Ytlccicbgepfbbaa
