/- Signals: which lists are such. -/
import Derived.Test.YtndagpompioooaaDoorB0
namespace Go.Proofs.YtndagpompioooaaDoor
open Go.RowKit

/-- A sample. -/
abbrev Smp (x : Int) : Prop := -1000000000 ≤ x ∧ x ≤ 1000000000

theorem sSmp_any (x : Int) (w : World) : Calls Tryd.prog 78 #[.int .i64 x] w fun e w' => e = .returned (.bool (decide (Smp x))) ∧ w' = w := by
  have i1 := in_any x (-1000000000) 1000000000
  generalize decide (-1000000000 ≤ x ∧ x ≤ 1000000000) = d at i1
  go_enter Tryd.func78, Tryd.ntmps78
  go_wp2_with (first | (go_at_call 59; (with_reducible refine (i1 _).mono ?_); rintro e w' ⟨rfl, hw⟩; obtain rfl := hw.symm))
  go_ret
  exact ⟨rfl, rfl⟩

theorem iSmp_any (x : Int) (w : World) : Calls Tryd.prog 79 #[.int .i64 x] w fun e w' => e = .returned (.bool (decide (Smp x))) ∧ w' = w := by
  go_enter Tryd.func79, Tryd.ntmps79
  by_cases h : -1000000000 ≤ x
  · by_cases h1 : x ≤ 1000000000
    · go_wp2
      go_ret
      exact ⟨by simp [h, h1], rfl⟩
    · go_wp2
      go_ret
      exact ⟨by simp [h1], rfl⟩
  · go_wp2
    go_ret
    exact ⟨by simp; omega, rfl⟩

/-- A signal. -/
abbrev Sig (n : Nat) (xs : Nat → Int) : Prop := n ≤ 512 ∧ ∀ k, k < n → Smp (xs k)

set_option maxHeartbeats 1000000 in
theorem sSig_any {w : World} {v : Value} {n : Nat} {xs : Nat → Int} (hv : Il w v n xs) (hn : n ≤ 1048576) : Calls Tryd.prog 58 #[v] w fun e w' => e = .returned (.bool (decide (Sig n xs))) ∧ w' = w := by
  obtain ⟨ao, cap, rfl, hcap, hc⟩ := hv
  have HC : Hid (0 < n → ∃ b off, ao = some ⟨b, off, none⟩ ∧ b < w.heap.size ∧ ∀ k, k < n → w.cell? ⟨b, off + k, none⟩ = some (.int .i64 (xs k))) := hc
  clear hc
  obtain ⟨d, hd⟩ : ∃ d, d = decide (Sig n xs) := ⟨_, rfl⟩
  rw [← hd]
  have HD : Hid _ := hd
  clear hd
  go_enter Tryd.func58, Tryd.ntmps58
  go_wp2
  go_loopw [3] (fun i wr => ∃ k : Nat, i = .int .i64 k ∧ k ≤ n ∧ wr = w ∧ Hid (∀ j, j < k → Smp (xs j))) (fun i _ => n - (intOf i).toNat)
  case atStart => exact ⟨0, rfl, by omega, rfl, fun j hj => by omega⟩
  case round =>
    obtain ⟨k, rfl, hk, rfl, hal⟩ := hrel
    by_cases h1 : k < n
    · obtain ⟨b, off, rfl, hlt, hcell⟩ := HC.out (by omega)
      have c := hcell k h1
      clear hcell
      have i1 := sSmp_any (xs k)
      by_cases hs : Smp (xs k)
      · have HS : Hid _ := hs
        rw [decide_eq_true hs] at i1
        clear hs
        go_wp2_with (first | (go_at_call 78; (with_reducible refine (i1 _).mono ?_); rintro e w' ⟨rfl, hw⟩; obtain rfl := hw.symm))
        go_roundw
        case rel =>
          refine ⟨k + 1, by go_num, by omega, by trivial, fun j hj => ?_⟩
          by_cases hjk : j = k
          · subst hjk; exact HS.out
          · exact hal.out j (by omega)
        case measure => simp [intOf]; omega
      · have HS : Hid _ := hs
        rw [decide_eq_false hs] at i1
        clear hs
        go_wp2_with (first | (go_at_call 78; (with_reducible refine (i1 _).mono ?_); rintro e w' ⟨rfl, hw⟩; obtain rfl := hw.symm))
        go_ret
        exact ⟨congrArg (fun z => Ending.returned (.bool z)) (by rw [HD.out]; exact (decide_eq_false (fun h => HS.out (h.2 k h1))).symm), rfl⟩
    · obtain rfl : k = n := by omega
      go_wp2
      go_ret
      refine ⟨congrArg (fun z => Ending.returned (.bool z)) ?_, rfl⟩
      rw [HD.out]
      refine decide_eq_decide.2 ⟨fun h => ⟨by omega, hal.out⟩, fun h => ?_⟩
      have := h.1
      omega

set_option maxHeartbeats 1000000 in
theorem iSig_any {w : World} {v : Value} {n : Nat} {xs : Nat → Int} (hv : Il w v n xs) (hn : n ≤ 1048576) : Calls Tryd.prog 55 #[v] w fun e w' => e = .returned (.bool (decide (Sig n xs))) ∧ w' = w := by
  obtain ⟨ao, cap, rfl, hcap, hc⟩ := hv
  have HC : Hid (0 < n → ∃ b off, ao = some ⟨b, off, none⟩ ∧ b < w.heap.size ∧ ∀ k, k < n → w.cell? ⟨b, off + k, none⟩ = some (.int .i64 (xs k))) := hc
  clear hc
  obtain ⟨d, hd⟩ : ∃ d, d = decide (Sig n xs) := ⟨_, rfl⟩
  rw [← hd]
  have HD : Hid _ := hd
  clear hd
  by_cases h512 : n ≤ 512
  · go_enter Tryd.func55, Tryd.ntmps55
    go_wp2
    go_loopw [4, 10] (fun _ i wr => ∃ k : Nat, i = .int .i64 k ∧ k ≤ n ∧ wr = w ∧ Hid (∀ j, j < k → Smp (xs j))) (fun _ i _ => n - (intOf i).toNat)
    case atStart => exact ⟨0, rfl, by omega, rfl, fun j hj => by omega⟩
    case round =>
      obtain ⟨k, rfl, hk, rfl, hal⟩ := hrel
      by_cases h1 : k < n
      · obtain ⟨b, off, rfl, hlt, hcell⟩ := HC.out (by omega)
        have c := hcell k h1
        clear hcell
        have i1 := iSmp_any (xs k)
        by_cases hs : Smp (xs k)
        · have HS : Hid _ := hs
          rw [decide_eq_true hs] at i1
          clear hs
          go_wp2_with (first | (go_at_call 79; (with_reducible refine (i1 _).mono ?_); rintro e w' ⟨rfl, hw⟩; obtain rfl := hw.symm))
          go_roundw
          case rel =>
            refine ⟨k + 1, by go_num, by omega, by trivial, fun j hj => ?_⟩
            by_cases hjk : j = k
            · subst hjk; exact HS.out
            · exact hal.out j (by omega)
          case measure => simp [intOf]; omega
        · have HS : Hid _ := hs
          rw [decide_eq_false hs] at i1
          clear hs
          go_wp2_with (first | (go_at_call 79; (with_reducible refine (i1 _).mono ?_); rintro e w' ⟨rfl, hw⟩; obtain rfl := hw.symm))
          go_ret
          exact ⟨congrArg (fun z => Ending.returned (.bool z)) (by rw [HD.out]; exact (decide_eq_false (fun h => HS.out (h.2 k h1))).symm), rfl⟩
      · obtain rfl : k = n := by omega
        go_wp2
        go_ret
        exact ⟨congrArg (fun z => Ending.returned (.bool z)) (by rw [HD.out]; exact (decide_eq_true ⟨h512, hal.out⟩).symm), rfl⟩
  · go_enter Tryd.func55, Tryd.ntmps55
    go_wp2
    go_ret
    exact ⟨congrArg (fun z => Ending.returned (.bool z)) (by rw [HD.out]; exact (decide_eq_false (fun h => h512 h.1)).symm), rfl⟩
end Go.Proofs.YtndagpompioooaaDoor
