/- Bursts: which lists are one, on both sides. -/
import Derived.Test.YtlcfcdpgggocnaaAF
namespace Go.Proofs.Ytlcfcdpgggocnaa
open Go.RowKit

/-- All are samples. -/
abbrev Pok (n : Nat) (z : Nat → Int) : Prop := ∀ j, j < n → Smp (z (j * 2)) ∧ Smp (z (j * 2 + 1))

set_option maxHeartbeats 4000000 in
theorem are_any {w : World} {v : Value} {n : Nat} {z : Nat → Int} (hv : Il2 w v n z) (hn : n ≤ 1048576) : Calls Try.prog 21 #[v] w fun e w' => e = .returned (.bool (decide (Pok n z))) ∧ Below w.heap.size w w' := by
  obtain ⟨ao, cap, rfl, hcap, hc⟩ := hv
  have HC : Hid (0 < n → ∃ b off, ao = some ⟨b, off, none⟩ ∧ b < w.heap.size ∧ ∀ k, k < n → w.cell? ⟨b, off + k * 2, none⟩ = some (.int .i64 (z (k * 2))) ∧ w.cell? ⟨b, off + k * 2 + 1, none⟩ = some (.int .i64 (z (k * 2 + 1)))) := hc
  clear hc
  obtain ⟨d, hd⟩ : ∃ d, d = decide (Pok n z) := ⟨_, rfl⟩
  rw [← hd]
  have HD : Hid (d = decide (Pok n z)) := hd
  clear hd
  go_enter Try.func21, Try.ntmps21
  go_wp2
  go_loopw [4, 7] (fun _ i wr => ∃ k : Nat, i = .int .i64 (k : Int) ∧ k ≤ n ∧ Hid (Below w.heap.size w wr ∧ ∀ j, j < k → Smp (z (j * 2)) ∧ Smp (z (j * 2 + 1)))) (fun _ i _ => n - (intOf i).toNat)
  case atStart => exact ⟨0, rfl, by omega, Below.refl _ _, fun j hj => by omega⟩
  case round =>
    obtain ⟨k, rfl, hk, hrel⟩ := hrel
    by_cases h1 : k < n
    · obtain ⟨b, off, rfl, hlt, hcell⟩ := HC.out (by omega)
      have c0 := (hrel.out.1.cell (p := ⟨b, off + k * 2, none⟩) hlt).trans (hcell k h1).1
      have c1 := (hrel.out.1.cell (p := ⟨b, off + k * 2 + 1, none⟩) hlt).trans (hcell k h1).2
      obtain ⟨x, hx⟩ : ∃ x, x = z (k * 2) := ⟨_, rfl⟩
      obtain ⟨y, hy⟩ : ∃ y, y = z (k * 2 + 1) := ⟨_, rfl⟩
      rw [← hx] at c0
      rw [← hy] at c1
      have HX : Hid (x = z (k * 2) ∧ y = z (k * 2 + 1)) := ⟨hx, hy⟩
      have HB4 : Hid (Below w.heap.size w (wr.alloc (.cells #[.int .i64 x, .int .i64 y] 34))) := bstep hrel.out.1 (below_one _ _)
      have HJ : Hid (∀ j, j < k → Smp (z (j * 2)) ∧ Smp (z (j * 2 + 1))) := hrel.out.2
      have i1 := iSmp_any x
      have i2 := iSmp_any y
      clear hcell hx hy hrel
      by_cases hs : Smp x
      · rw [decide_eq_true hs] at i1
        by_cases ht : Smp y
        · rw [decide_eq_true ht] at i2
          have HN : Hid (∀ j, j < k + 1 → Smp (z (j * 2)) ∧ Smp (z (j * 2 + 1))) := fun j hj => by
            by_cases h9 : j = k
            · subst h9; rw [← HX.out.1, ← HX.out.2]; exact ⟨hs, ht⟩
            · exact HJ.out j (by omega)
          clear hs ht
          go_wp2_with (first | (go_at_call 22; (with_reducible refine (i1 _).mono ?_); rintro e w' ⟨rfl, hw⟩; obtain rfl := hw.symm) | (go_at_call 22; (with_reducible refine (i2 _).mono ?_); rintro e w' ⟨rfl, hw⟩; obtain rfl := hw.symm))
          go_roundw
          case rel => exact ⟨k + 1, by go_num, by omega, HB4.out, HN.out⟩
          case measure => simp [intOf]; omega
        · rw [decide_eq_false ht] at i2
          have HN : Hid (¬ Pok n z) := fun h9 => ht (by rw [HX.out.2]; exact (h9 k h1).2)
          clear hs ht
          go_wp2_with (first | (go_at_call 22; (with_reducible refine (i1 _).mono ?_); rintro e w' ⟨rfl, hw⟩; obtain rfl := hw.symm) | (go_at_call 22; (with_reducible refine (i2 _).mono ?_); rintro e w' ⟨rfl, hw⟩; obtain rfl := hw.symm))
          go_ret
          exact ⟨congrArg (fun z => Ending.returned (.bool z)) (by rw [HD.out]; exact (decide_eq_false HN.out).symm), HB4.out⟩
      · rw [decide_eq_false hs] at i1
        have HN : Hid (¬ Pok n z) := fun h9 => hs (by rw [HX.out.1]; exact (h9 k h1).1)
        clear hs i2
        go_wp2_with (first | (go_at_call 22; (with_reducible refine (i1 _).mono ?_); rintro e w' ⟨rfl, hw⟩; obtain rfl := hw.symm))
        go_ret
        exact ⟨congrArg (fun z => Ending.returned (.bool z)) (by rw [HD.out]; exact (decide_eq_false HN.out).symm), HB4.out⟩
    · obtain rfl : n = k := by omega
      go_wp2
      go_ret
      exact ⟨congrArg (fun z => Ending.returned (.bool z)) (by rw [HD.out]; exact (decide_eq_true hrel.out.2).symm), hrel.out.1⟩

theorem burst_any {w : World} {v : Value} {n : Nat} {z : Nat → Int} (hv : Il2 w v n z) (hn : n ≤ 1048576) : Calls Try.prog 17 #[v] w fun e w' => e = .returned (.bool (decide (n ≤ 4096 ∧ Pok n z))) ∧ Below w.heap.size w w' := by
  have i1 := are_any hv hn
  obtain ⟨ao, cap, rfl, hcap, hc⟩ := hv
  clear hc
  by_cases h1 : n ≤ 4096
  · generalize hd : decide (Pok n z) = d at i1
    have hd2 : decide (n ≤ 4096 ∧ Pok n z) = d := by rw [← hd]; exact decide_eq_decide.2 ⟨fun h => h.2, fun h => ⟨h1, h⟩⟩
    rw [hd2]
    clear hd hd2
    go_enter Try.func17, Try.ntmps17
    go_wp2_with (go_at_call 21; (with_reducible refine i1.mono ?_); rintro e w' ⟨rfl, hb⟩)
    go_ret
    exact ⟨rfl, hb⟩
  · rw [decide_eq_false (fun h => h1 h.1)]
    clear i1
    go_enter Try.func17, Try.ntmps17
    go_wp2
    go_ret
    exact ⟨rfl, Below.refl _ _⟩

set_option maxHeartbeats 4000000 in
theorem sBurst_any {w : World} {v : Value} {n : Nat} {z : Nat → Int} (hv : Il2 w v n z) (hn : n ≤ 1048576) : Calls Try.prog 11 #[v] w fun e w' => e = .returned (.bool (decide (n ≤ 4096 ∧ Pok n z))) ∧ Below w.heap.size w w' := by
  obtain ⟨ao, cap, rfl, hcap, hc⟩ := hv
  have HC : Hid (0 < n → ∃ b off, ao = some ⟨b, off, none⟩ ∧ b < w.heap.size ∧ ∀ k, k < n → w.cell? ⟨b, off + k * 2, none⟩ = some (.int .i64 (z (k * 2))) ∧ w.cell? ⟨b, off + k * 2 + 1, none⟩ = some (.int .i64 (z (k * 2 + 1)))) := hc
  clear hc
  obtain ⟨d, hd⟩ : ∃ d, d = decide (n ≤ 4096 ∧ Pok n z) := ⟨_, rfl⟩
  rw [← hd]
  have HD : Hid (d = decide (n ≤ 4096 ∧ Pok n z)) := hd
  clear hd
  go_enter Try.func11, Try.ntmps11
  go_wp2
  go_loopw [3] (fun i wr => ∃ k : Nat, i = .int .i64 (k : Int) ∧ k ≤ n ∧ Hid (Below w.heap.size w wr ∧ ∀ j, j < k → Smp (z (j * 2)) ∧ Smp (z (j * 2 + 1)))) (fun i _ => n - (intOf i).toNat)
  case atStart => exact ⟨0, rfl, by omega, Below.refl _ _, fun j hj => by omega⟩
  case round =>
    obtain ⟨k, rfl, hk, hrel⟩ := hrel
    by_cases h1 : k < n
    · obtain ⟨b, off, rfl, hlt, hcell⟩ := HC.out (by omega)
      have c0 := (hrel.out.1.cell (p := ⟨b, off + k * 2, none⟩) hlt).trans (hcell k h1).1
      have c1 := (hrel.out.1.cell (p := ⟨b, off + k * 2 + 1, none⟩) hlt).trans (hcell k h1).2
      obtain ⟨x, hx⟩ : ∃ x, x = z (k * 2) := ⟨_, rfl⟩
      obtain ⟨y, hy⟩ : ∃ y, y = z (k * 2 + 1) := ⟨_, rfl⟩
      rw [← hx] at c0
      rw [← hy] at c1
      have HX : Hid (x = z (k * 2) ∧ y = z (k * 2 + 1)) := ⟨hx, hy⟩
      have HB4 : Hid (Below w.heap.size w wr) := hrel.out.1
      have HJ : Hid (∀ j, j < k → Smp (z (j * 2)) ∧ Smp (z (j * 2 + 1))) := hrel.out.2
      have i1 := sSmp_any x
      have i2 := sSmp_any y
      clear hcell hx hy hrel
      by_cases hs : Smp x
      · rw [decide_eq_true hs] at i1
        by_cases ht : Smp y
        · rw [decide_eq_true ht] at i2
          have HN : Hid (∀ j, j < k + 1 → Smp (z (j * 2)) ∧ Smp (z (j * 2 + 1))) := fun j hj => by
            by_cases h9 : j = k
            · subst h9; rw [← HX.out.1, ← HX.out.2]; exact ⟨hs, ht⟩
            · exact HJ.out j (by omega)
          clear hs ht
          go_wp2_with (first | (go_at_call 19; (with_reducible refine (i1 _).mono ?_); rintro e w' ⟨rfl, hw⟩; obtain rfl := hw.symm) | (go_at_call 19; (with_reducible refine (i2 _).mono ?_); rintro e w' ⟨rfl, hw⟩; obtain rfl := hw.symm))
          go_roundw
          case rel => exact ⟨k + 1, by go_num, by omega, HB4.out, HN.out⟩
          case measure => simp [intOf]; omega
        · rw [decide_eq_false ht] at i2
          have HN : Hid (¬ (n ≤ 4096 ∧ Pok n z)) := fun h9 => ht (by rw [HX.out.2]; exact (h9.2 k h1).2)
          clear hs ht
          go_wp2_with (first | (go_at_call 19; (with_reducible refine (i1 _).mono ?_); rintro e w' ⟨rfl, hw⟩; obtain rfl := hw.symm) | (go_at_call 19; (with_reducible refine (i2 _).mono ?_); rintro e w' ⟨rfl, hw⟩; obtain rfl := hw.symm))
          go_ret
          exact ⟨congrArg (fun z => Ending.returned (.bool z)) (by rw [HD.out]; exact (decide_eq_false HN.out).symm), HB4.out⟩
      · rw [decide_eq_false hs] at i1
        have HN : Hid (¬ (n ≤ 4096 ∧ Pok n z)) := fun h9 => hs (by rw [HX.out.1]; exact (h9.2 k h1).1)
        clear hs i2
        go_wp2_with (first | (go_at_call 19; (with_reducible refine (i1 _).mono ?_); rintro e w' ⟨rfl, hw⟩; obtain rfl := hw.symm))
        go_ret
        exact ⟨congrArg (fun z => Ending.returned (.bool z)) (by rw [HD.out]; exact (decide_eq_false HN.out).symm), HB4.out⟩
    · obtain rfl : n = k := by omega
      by_cases h4 : n ≤ 4096
      · go_wp2
        go_ret
        exact ⟨congrArg (fun z => Ending.returned (.bool z)) (by rw [HD.out, decide_eq_true (show n ≤ 4096 ∧ Pok n z from ⟨h4, hrel.out.2⟩)]; simp; omega), hrel.out.1⟩
      · go_wp2
        go_ret
        exact ⟨congrArg (fun z => Ending.returned (.bool z)) (by rw [HD.out, decide_eq_false (show ¬ (n ≤ 4096 ∧ Pok n z) from fun h => h4 h.1)]; simp; omega), hrel.out.1⟩
end Go.Proofs.Ytlcfcdpgggocnaa
