/- Taps: which lists are such. -/
import Derived.Test.YtimjbpmppigaoaaC1
namespace Go.Proofs.Ytimjbpmppigaoaa
open Go.RowKit

/-- A tap. -/
abbrev Tap (x : Int) : Prop := -1000000 ≤ x ∧ x ≤ 1000000

/-- A list of taps. -/
abbrev Tps (n : Nat) (xs : Nat → Int) : Prop := n ≤ 256 ∧ ∀ k, k < n → Tap (xs k)

set_option maxHeartbeats 1000000 in
theorem sTps_any {w : World} {v : Value} {n : Nat} {xs : Nat → Int} (hv : Il w v n xs) (hn : n ≤ 1048576) : Calls Try.prog 33 #[v] w fun e w' => e = .returned (.bool (decide (Tps n xs))) ∧ w' = w := by
  obtain ⟨ao, cap, rfl, hcap, hc⟩ := hv
  have HC : Hid (0 < n → ∃ b off, ao = some ⟨b, off, none⟩ ∧ b < w.heap.size ∧ ∀ k, k < n → w.cell? ⟨b, off + k, none⟩ = some (.int .i64 (xs k))) := hc
  clear hc
  obtain ⟨d, hd⟩ : ∃ d, d = decide (Tps n xs) := ⟨_, rfl⟩
  rw [← hd]
  have HD : Hid _ := hd
  clear hd
  go_enter Try.func33, Try.ntmps33
  go_wp2
  go_loopw [3] (fun i wr => ∃ k : Nat, i = .int .i64 k ∧ k ≤ n ∧ wr = w ∧ Hid (∀ j, j < k → Tap (xs j))) (fun i _ => n - (intOf i).toNat)
  case atStart => exact ⟨0, rfl, by omega, rfl, fun j hj => by omega⟩
  case round =>
    obtain ⟨k, rfl, hk, rfl, hal⟩ := hrel
    by_cases h1 : k < n
    · obtain ⟨b, off, rfl, hlt, hcell⟩ := HC.out (by omega)
      have c := hcell k h1
      clear hcell
      have i1 := in_any (xs k) (-1000000) 1000000
      by_cases hs : Tap (xs k)
      · have HS : Hid _ := hs
        rw [decide_eq_true hs] at i1
        clear hs
        go_wp2_with (first | (go_at_call 39; (with_reducible refine (i1 _).mono ?_); rintro e w' ⟨rfl, hw⟩; obtain rfl := hw.symm))
        go_roundw
        case rel =>
          refine ⟨k + 1, by go_num, by omega, by trivial, fun j hj => ?_⟩
          by_cases hjk : j = k
          · subst hjk; exact HS.out
          · exact hal.out j (by omega)
        case measure => simp [intOf]; omega
      · have HS : Hid _ := hs
        rw [decide_eq_false hs] at i1
        clear hs
        go_wp2_with (first | (go_at_call 39; (with_reducible refine (i1 _).mono ?_); rintro e w' ⟨rfl, hw⟩; obtain rfl := hw.symm))
        go_ret
        exact ⟨congrArg (fun z => Ending.returned (.bool z)) (by rw [HD.out]; exact (decide_eq_false (fun h => HS.out (h.2 k h1))).symm), rfl⟩
    · obtain rfl : k = n := by omega
      go_wp2
      go_ret
      refine ⟨congrArg (fun z => Ending.returned (.bool z)) ?_, rfl⟩
      rw [HD.out]
      refine decide_eq_decide.2 ⟨fun h => ⟨by omega, hal.out⟩, fun h => ?_⟩
      have := h.1
      omega

/-- All of them are taps. -/
abbrev Twn (n : Nat) (xs : Nat → Int) : Prop := ∀ k, k < n → Tap (xs k)

instance (n : Nat) (xs : Nat → Int) : Decidable (Twn n xs) := inferInstanceAs (Decidable (∀ k, k < n → Tap (xs k)))

set_option maxHeartbeats 1000000 in
theorem iTwn_any {w : World} {v : Value} {n : Nat} {xs : Nat → Int} (hv : Il w v n xs) (hn : n ≤ 1048576) : Calls Try.prog 44 #[v] w fun e w' => e = .returned (.bool (decide (Twn n xs))) ∧ w' = w := by
  obtain ⟨ao, cap, rfl, hcap, hc⟩ := hv
  have HC : Hid (0 < n → ∃ b off, ao = some ⟨b, off, none⟩ ∧ b < w.heap.size ∧ ∀ k, k < n → w.cell? ⟨b, off + k, none⟩ = some (.int .i64 (xs k))) := hc
  clear hc
  obtain ⟨d, hd⟩ : ∃ d, d = decide (Twn n xs) := ⟨_, rfl⟩
  rw [← hd]
  have HD : Hid _ := hd
  clear hd
  go_enter Try.func44, Try.ntmps44
  go_wp2
  go_loopw [4, 7] (fun _ i wr => ∃ k : Nat, i = .int .i64 k ∧ k ≤ n ∧ wr = w ∧ Hid (∀ j, j < k → Tap (xs j))) (fun _ i _ => n - (intOf i).toNat)
  case atStart => exact ⟨0, rfl, by omega, rfl, fun j hj => by omega⟩
  case round =>
    obtain ⟨k, rfl, hk, rfl, hal⟩ := hrel
    by_cases h1 : k < n
    · obtain ⟨b, off, rfl, hlt, hcell⟩ := HC.out (by omega)
      have c := hcell k h1
      clear hcell
      by_cases hs : Tap (xs k)
      · have HS : Hid _ := hs
        obtain ⟨hs1, hs2⟩ := hs
        go_wp2
        go_roundw
        case rel =>
          refine ⟨k + 1, by go_num, by omega, by trivial, fun j hj => ?_⟩
          by_cases hjk : j = k
          · subst hjk; exact HS.out
          · exact hal.out j (by omega)
        case measure => simp [intOf]; omega
      · have HS : Hid _ := hs
        by_cases hs1 : xs k < -1000000
        · clear hs
          go_wp2
          go_ret
          exact ⟨congrArg (fun z => Ending.returned (.bool z)) (by rw [HD.out]; exact (decide_eq_false (fun h => HS.out (h k h1))).symm), rfl⟩
        · have hs2 : 1000000 < xs k := by unfold Tap at hs; omega
          clear hs
          go_wp2
          go_ret
          exact ⟨congrArg (fun z => Ending.returned (.bool z)) (by rw [HD.out]; exact (decide_eq_false (fun h => HS.out (h k h1))).symm), rfl⟩
    · obtain rfl : k = n := by omega
      go_wp2
      go_ret
      exact ⟨congrArg (fun z => Ending.returned (.bool z)) (by rw [HD.out]; exact (decide_eq_true hal.out).symm), rfl⟩

theorem iTps_any {w : World} {v : Value} {n : Nat} {xs : Nat → Int} (hv : Il w v n xs) (hn : n ≤ 1048576) : Calls Try.prog 30 #[v] w fun e w' => e = .returned (.bool (decide (Tps n xs))) ∧ w' = w := by
  have i1 := iTwn_any hv hn
  obtain ⟨ao, cap, rfl, hcap, hc⟩ := hv
  clear hc
  obtain ⟨d, hd⟩ : ∃ d, d = decide (Tps n xs) := ⟨_, rfl⟩
  rw [← hd]
  obtain ⟨t, ht⟩ : ∃ t, t = decide (Twn n xs) := ⟨_, rfl⟩
  rw [← ht] at i1
  by_cases h256 : n ≤ 256
  · have HD : Hid (d = t) := by
      show d = t
      rw [hd, ht]
      exact decide_eq_decide.2 ⟨fun h => h.2, fun h => ⟨h256, h⟩⟩
    clear hd ht
    go_enter Try.func30, Try.ntmps30
    go_wp2_with (go_at_call 44; (with_reducible refine (i1).mono ?_); rintro e w' ⟨rfl, hw⟩; obtain rfl := hw.symm)
    go_ret
    exact ⟨congrArg (fun z => Ending.returned (.bool z)) HD.out.symm, rfl⟩
  · have HD : Hid (d = false) := by
      show d = false
      rw [hd]
      exact decide_eq_false (fun h => h256 h.1)
    clear hd ht
    go_enter Try.func30, Try.ntmps30
    go_wp2
    go_ret
    exact ⟨congrArg (fun z => Ending.returned (.bool z)) HD.out.symm, rfl⟩
end Go.Proofs.Ytimjbpmppigaoaa
