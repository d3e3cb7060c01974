/- Signals: which lists are such. -/
import Derived.Test.YtgpoajcpngndhaaB0
namespace Go.Proofs.Ytgpoajcpngndhaa
open Go.RowKit

/-- A sample. -/
abbrev Smp (x : Int) : Prop := -1000000000 ≤ x ∧ x ≤ 1000000000

theorem sSmp_any (x : Int) (w : World) : Calls Try.prog 23 #[.int .i64 x] w fun e w' => e = .returned (.bool (decide (Smp x))) ∧ w' = w := by
  have i1 := in_any x (-1000000000) 1000000000
  generalize decide (-1000000000 ≤ x ∧ x ≤ 1000000000) = d at i1
  go_enter Try.func23, Try.ntmps23
  go_wp2_with (first | (go_at_call 25; (with_reducible refine (i1 _).mono ?_); rintro e w' ⟨rfl, hw⟩; obtain rfl := hw.symm))
  go_ret
  exact ⟨rfl, rfl⟩

theorem iSmp_any (x : Int) (w : World) : Calls Try.prog 24 #[.int .i64 x] w fun e w' => e = .returned (.bool (decide (Smp x))) ∧ w' = w := by
  go_enter Try.func24, Try.ntmps24
  by_cases h : -1000000000 ≤ x
  · by_cases h1 : x ≤ 1000000000
    · go_wp2
      go_ret
      exact ⟨by simp [h, h1], rfl⟩
    · go_wp2
      go_ret
      exact ⟨by simp [h1], rfl⟩
  · go_wp2
    go_ret
    exact ⟨by simp; omega, rfl⟩

/-- A signal. -/
abbrev Sig (n : Nat) (xs : Nat → Int) : Prop := n ≤ 512 ∧ ∀ k, k < n → Smp (xs k)

set_option maxHeartbeats 1000000 in
theorem sSig_any {w : World} {v : Value} {n : Nat} {xs : Nat → Int} (hv : Il w v n xs) (hn : n ≤ 1048576) : Calls Try.prog 9 #[v] w fun e w' => e = .returned (.bool (decide (Sig n xs))) ∧ w' = w := by
  obtain ⟨ao, cap, rfl, hcap, hc⟩ := hv
  have HC : Hid (0 < n → ∃ b off, ao = some ⟨b, off, none⟩ ∧ b < w.heap.size ∧ ∀ k, k < n → w.cell? ⟨b, off + k, none⟩ = some (.int .i64 (xs k))) := hc
  clear hc
  obtain ⟨d, hd⟩ : ∃ d, d = decide (Sig n xs) := ⟨_, rfl⟩
  rw [← hd]
  have HD : Hid _ := hd
  clear hd
  go_enter Try.func9, Try.ntmps9
  go_wp2
  go_loopw [3] (fun i wr => ∃ k : Nat, i = .int .i64 k ∧ k ≤ n ∧ wr = w ∧ Hid (∀ j, j < k → Smp (xs j))) (fun i _ => n - (intOf i).toNat)
  case atStart => exact ⟨0, rfl, by omega, rfl, fun j hj => by omega⟩
  case round =>
    obtain ⟨k, rfl, hk, rfl, hal⟩ := hrel
    by_cases h1 : k < n
    · obtain ⟨b, off, rfl, hlt, hcell⟩ := HC.out (by omega)
      have c := hcell k h1
      clear hcell
      have i1 := sSmp_any (xs k)
      by_cases hs : Smp (xs k)
      · have HS : Hid _ := hs
        rw [decide_eq_true hs] at i1
        clear hs
        go_wp2_with (first | (go_at_call 23; (with_reducible refine (i1 _).mono ?_); rintro e w' ⟨rfl, hw⟩; obtain rfl := hw.symm))
        go_roundw
        case rel =>
          refine ⟨k + 1, by go_num, by omega, by trivial, fun j hj => ?_⟩
          by_cases hjk : j = k
          · subst hjk; exact HS.out
          · exact hal.out j (by omega)
        case measure => simp [intOf]; omega
      · have HS : Hid _ := hs
        rw [decide_eq_false hs] at i1
        clear hs
        go_wp2_with (first | (go_at_call 23; (with_reducible refine (i1 _).mono ?_); rintro e w' ⟨rfl, hw⟩; obtain rfl := hw.symm))
        go_ret
        exact ⟨congrArg (fun z => Ending.returned (.bool z)) (by rw [HD.out]; exact (decide_eq_false (fun h => HS.out (h.2 k h1))).symm), rfl⟩
    · obtain rfl : k = n := by omega
      go_wp2
      go_ret
      refine ⟨congrArg (fun z => Ending.returned (.bool z)) ?_, rfl⟩
      rw [HD.out]
      refine decide_eq_decide.2 ⟨fun h => ⟨by omega, hal.out⟩, fun h => ?_⟩
      have := h.1
      omega

set_option maxHeartbeats 1000000 in
theorem iSig_any {w : World} {v : Value} {n : Nat} {xs : Nat → Int} (hv : Il w v n xs) (hn : n ≤ 1048576) : Calls Try.prog 11 #[v] w fun e w' => e = .returned (.bool (decide (Sig n xs))) ∧ w' = w := by
  obtain ⟨ao, cap, rfl, hcap, hc⟩ := hv
  have HC : Hid (0 < n → ∃ b off, ao = some ⟨b, off, none⟩ ∧ b < w.heap.size ∧ ∀ k, k < n → w.cell? ⟨b, off + k, none⟩ = some (.int .i64 (xs k))) := hc
  clear hc
  obtain ⟨d, hd⟩ : ∃ d, d = decide (Sig n xs) := ⟨_, rfl⟩
  rw [← hd]
  have HD : Hid _ := hd
  clear hd
  by_cases h512 : n ≤ 512
  · go_enter Try.func11, Try.ntmps11
    go_wp2
    go_loopw [4, 10] (fun _ i wr => ∃ k : Nat, i = .int .i64 k ∧ k ≤ n ∧ wr = w ∧ Hid (∀ j, j < k → Smp (xs j))) (fun _ i _ => n - (intOf i).toNat)
    case atStart => exact ⟨0, rfl, by omega, rfl, fun j hj => by omega⟩
    case round =>
      obtain ⟨k, rfl, hk, rfl, hal⟩ := hrel
      by_cases h1 : k < n
      · obtain ⟨b, off, rfl, hlt, hcell⟩ := HC.out (by omega)
        have c := hcell k h1
        clear hcell
        have i1 := iSmp_any (xs k)
        by_cases hs : Smp (xs k)
        · have HS : Hid _ := hs
          rw [decide_eq_true hs] at i1
          clear hs
          go_wp2_with (first | (go_at_call 24; (with_reducible refine (i1 _).mono ?_); rintro e w' ⟨rfl, hw⟩; obtain rfl := hw.symm))
          go_roundw
          case rel =>
            refine ⟨k + 1, by go_num, by omega, by trivial, fun j hj => ?_⟩
            by_cases hjk : j = k
            · subst hjk; exact HS.out
            · exact hal.out j (by omega)
          case measure => simp [intOf]; omega
        · have HS : Hid _ := hs
          rw [decide_eq_false hs] at i1
          clear hs
          go_wp2_with (first | (go_at_call 24; (with_reducible refine (i1 _).mono ?_); rintro e w' ⟨rfl, hw⟩; obtain rfl := hw.symm))
          go_ret
          exact ⟨congrArg (fun z => Ending.returned (.bool z)) (by rw [HD.out]; exact (decide_eq_false (fun h => HS.out (h.2 k h1))).symm), rfl⟩
      · obtain rfl : k = n := by omega
        go_wp2
        go_ret
        exact ⟨congrArg (fun z => Ending.returned (.bool z)) (by rw [HD.out]; exact (decide_eq_true ⟨h512, hal.out⟩).symm), rfl⟩
  · go_enter Try.func11, Try.ntmps11
    go_wp2
    go_ret
    exact ⟨congrArg (fun z => Ending.returned (.bool z)) (by rw [HD.out]; exact (decide_eq_false (fun h => h512 h.1)).symm), rfl⟩

set_option maxHeartbeats 1000000 in
theorem walk_sig {w : World} {v : Value} {n : Nat} {xs : Nat → Int} (hv : Il w v n xs) (hn : n ≤ 9223372036854775807) : Calls Try.prog 3 #[v] w fun e w' => e = .returned (.bool true) ∧ Below w.heap.size w w' := by
  by_cases h : n ≤ 1048576
  · have FV : Hid (Il w v n xs) := hv
    obtain ⟨ao, cap, rfl, hcap, hc⟩ := hv
    clear hc
    obtain ⟨d, hd⟩ : ∃ d, d = decide (Sig n xs) := ⟨_, rfl⟩
    have HS : Hid (∀ W u, Il W u n xs → Calls Try.prog 9 #[u] W fun e w' => e = .returned (.bool d) ∧ w' = W) := fun W u hu => by rw [hd]; exact sSig_any hu h
    have HI : Hid (∀ W u, Il W u n xs → Calls Try.prog 11 #[u] W fun e w' => e = .returned (.bool d) ∧ w' = W) := fun W u hu => by rw [hd]; exact iSig_any hu h
    clear hd
    go_enter Try.func3, Try.ntmps3
    go_wp2_with (first
      | (go_at_call 10; (fail_if_success have := M1); refine (copy_own FV.out h).mono ?_; rintro e w1 ⟨hb1, v1, rfl, hf1, _⟩; have M1 : Hid True := trivial; have F1 : Hid (Il w1 v1 n xs) := hf1; have B1 : Hid (Below w.heap.size w w1) := hb1; clear hf1 hb1)
      | (go_at_call 9; refine (HS.out _ _ F1.out).mono ?_; rintro e w' ⟨rfl, hw⟩; obtain rfl := hw.symm; have M2 : Hid True := trivial)
      | (go_at_call 10; have Z := M2; (fail_if_success have := M3); refine (copy_own (Il.below FV.out B1.out) h).mono ?_; rintro e w3 ⟨hb3, x0, rfl, hf3, _⟩; have M3 : Hid True := trivial; have FX : Hid (Il w3 x0 n xs) := hf3; have B3 : Hid (Below w.heap.size w w3) := bstep B1.out hb3; clear hf3 hb3)
      | (go_at_call 11; refine (HI.out _ _ FX.out).mono ?_; rintro e w' ⟨rfl, hw⟩; obtain rfl := hw.symm; have M4 : Hid True := trivial)
      | (go_at_call 10; have Z := M4; (fail_if_success have := M5); refine (copy_own (Il.below FV.out B3.out) h).mono ?_; rintro e w5 ⟨hb5, y0, rfl, hf5, _⟩; have M5 : Hid True := trivial; have FY : Hid (Il w5 y0 n xs) := hf5; have FX5 : Hid (Il w5 x0 n xs) := Il.below FX.out hb5; have B5 : Hid (Below w.heap.size w w5) := bstep B3.out hb5; clear hf5 hb5)
      | (go_at_call 12; refine (eq_yes FX5.out FY.out h).mono ?_; rintro e w6 ⟨rfl, hb6⟩))
    go_ret
    exact ⟨rfl, bstep B5.out hb6⟩
  · obtain ⟨ao, cap, rfl, hcap, hc⟩ := hv
    clear hc
    go_enter Try.func3, Try.ntmps3
    go_wp2
    go_ret
    exact ⟨rfl, Below.refl _ _⟩
end Go.Proofs.Ytgpoajcpngndhaa
