/- Numbers within a bound: one, two. -/
import Derived.Test.YtonjgielpcofeaaQA
namespace Go.Proofs.Ytonjgielpcofeaa
open Go.RowKit

set_option maxHeartbeats 1000000 in
/-- Numbers in a block of their own, all within a bound. -/
theorem within_any {w : World} {g c n : Nat} {M : Int} {xs : Nat → Int} (hc : ∀ k, k < n → w.cell? ⟨g, k, none⟩ = some (.int .i64 (xs k))) (hn : n ≤ 1048576) (hg : g < w.heap.size) (hnc : n ≤ c) (hM : 0 ≤ M ∧ M ≤ 1099511627776) :
    Calls Try.prog 29 #[.int .i64 M, .slice (some ⟨g, 0, none⟩) n c] w fun e w' => e = .returned (.bool (decide (∀ k, k < n → -M ≤ xs k ∧ xs k ≤ M))) ∧ w' = w := by
  have HC : Hid (∀ k, k < n → w.cell? ⟨g, k, none⟩ = some (.int .i64 (xs k))) := hc
  clear hc
  obtain ⟨d, hd⟩ : ∃ d, d = decide (∀ k, k < n → -M ≤ xs k ∧ xs k ≤ M) := ⟨_, rfl⟩
  rw [← hd]
  have HD : Hid _ := hd
  clear hd
  go_enter Try.func29, Try.ntmps29
  go_wp2
  go_loopw [6, 9] (fun _ i wr => ∃ k : Nat, i = .int .i64 k ∧ k ≤ n ∧ wr = w ∧ Hid (∀ j, j < k → -M ≤ xs j ∧ xs j ≤ M)) (fun _ i _ => n - (intOf i).toNat)
  case atStart => exact ⟨0, rfl, by omega, rfl, fun j hj => by omega⟩
  case round =>
    obtain ⟨k, rfl, hk, rfl, hal⟩ := hrel
    by_cases h1 : k < n
    · have c := HC.out k h1
      by_cases h2 : -M ≤ xs k
      · by_cases h3 : xs k ≤ M
        · go_wp2
          go_roundw
          case rel =>
            refine ⟨k + 1, by go_num, by omega, by trivial, fun j hj => ?_⟩
            by_cases hjk : j = k
            · subst hjk; exact ⟨h2, h3⟩
            · exact hal.out j (by omega)
          case measure => simp [intOf]; omega
        · go_wp2
          go_ret
          exact ⟨congrArg (fun z => Ending.returned (.bool z)) (by rw [HD.out]; exact (decide_eq_false (fun h => by have := (h k h1).2; omega)).symm), rfl⟩
      · go_wp2
        go_ret
        exact ⟨congrArg (fun z => Ending.returned (.bool z)) (by rw [HD.out]; exact (decide_eq_false (fun h => by have := (h k h1).1; omega)).symm), rfl⟩
    · obtain rfl : k = n := by omega
      go_wp2
      go_ret
      exact ⟨congrArg (fun z => Ending.returned (.bool z)) (by rw [HD.out]; exact (decide_eq_true (fun j hj => hal.out j hj)).symm), rfl⟩

theorem within_one {w : World} {g : Nat} {M x : Int} (h0 : w.cell? ⟨g, 0, none⟩ = some (.int .i64 x)) (hM : 0 ≤ M ∧ M ≤ 1099511627776) :
    Calls Try.prog 29 #[.int .i64 M, .slice (some ⟨g, 0, none⟩) 1 1] w fun e w' => e = .returned (.bool (decide (-M ≤ x ∧ x ≤ M))) ∧ w' = w := by
  have h := within_any (g := g) (c := 1) (n := 1) (M := M) (xs := fun _ => x) (fun k hk => by rw [show k = 0 by omega]; exact h0) (by decide) (World.block_lt_of_cell? w _ h0) (by decide) hM
  rwa [show decide (∀ k, k < 1 → -M ≤ x ∧ x ≤ M) = decide (-M ≤ x ∧ x ≤ M) from decide_eq_decide.2 ⟨fun h => h 0 (by decide), fun h _ _ => h⟩] at h

theorem within_two {w : World} {g : Nat} {M x y : Int} (h0 : w.cell? ⟨g, 0, none⟩ = some (.int .i64 x)) (h1 : w.cell? ⟨g, 1, none⟩ = some (.int .i64 y)) (hM : 0 ≤ M ∧ M ≤ 1099511627776) :
    Calls Try.prog 29 #[.int .i64 M, .slice (some ⟨g, 0, none⟩) 2 2] w fun e w' => e = .returned (.bool (decide ((-M ≤ x ∧ x ≤ M) ∧ -M ≤ y ∧ y ≤ M))) ∧ w' = w := by
  have h := within_any (g := g) (c := 2) (n := 2) (M := M) (xs := fun k => if k = 0 then x else y) (fun k hk => by
    by_cases hk0 : k = 0
    · subst hk0; exact h0
    · obtain rfl : k = 1 := by omega
      exact h1) (by decide) (World.block_lt_of_cell? w _ h0) (by decide) hM
  rwa [show decide (∀ k, k < 2 → -M ≤ (if k = 0 then x else y) ∧ (if k = 0 then x else y) ≤ M) = decide ((-M ≤ x ∧ x ≤ M) ∧ -M ≤ y ∧ y ≤ M) from decide_eq_decide.2 ⟨fun h => ⟨h 0 (by decide), h 1 (by decide)⟩, fun h k hk => by
    by_cases hk0 : k = 0
    · subst hk0; exact h.1
    · obtain rfl : k = 1 := by omega
      exact h.2⟩] at h

end Go.Proofs.Ytonjgielpcofeaa
