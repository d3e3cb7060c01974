/- Nearest levels, points that are such: the program's. -/
import Derived.Test.YtpoiejmpdlmegaaDW
namespace Go.Proofs.Ytpoiejmpdlmegaa
open Go.RowKit

set_option maxHeartbeats 4000000 in
theorem near_any {h : Nat} (hh : Hlf h) {x : Int} (hx : Smp x) (w : World) : Calls Try.prog 23 #[.int .i64 x, .int .i64 (h : Int)] w fun e w' => e = .returned (.int .i64 (nlv h x)) ∧ Below w.heap.size w w' := by
  have i1 := top_any hh
  have hp := top_in hh
  obtain ⟨z, hz⟩ : ∃ z, z = nlv h x := ⟨_, rfl⟩
  rw [← hz]
  unfold nlv at hz
  obtain ⟨p, hp2⟩ : ∃ p : Int, p = 2 ^ h - 1 := ⟨_, rfl⟩
  rw [← hp2] at i1 hp hz
  have i2 := iRound_any (x + p) 2 
  obtain ⟨u, hu⟩ : ∃ u, u = rdV (x + p) 2 := ⟨_, rfl⟩
  rw [← hu] at i2 hz
  have hub : -600000000 ≤ u ∧ u ≤ 600000000 := by
    rw [hu]
    unfold rdV rdv
    rw [if_pos (by omega)]
    split <;> omega
  clear hp2 hu
  by_cases h1 : u < 0
  · rw [if_pos h1] at hz
    subst hz
    go_enter Try.func23, Try.ntmps23
    go_wp2_with (first | (go_at_call 31; (with_reducible refine (i1 _).mono ?_); rintro e w' ⟨rfl, hw⟩; obtain rfl := hw.symm) | (go_at_call 36; (with_reducible refine (i2 _).mono ?_); rintro e w1 ⟨rfl, hb⟩; have HB : Hid (Below w.heap.size w w1) := hb; clear hb))
    go_ret
    exact ⟨rfl, HB.out⟩
  · rw [if_neg h1] at hz
    by_cases h2 : p < u
    · rw [if_pos h2] at hz
      subst hz
      go_enter Try.func23, Try.ntmps23
      go_wp2_with (first | (go_at_call 31; (with_reducible refine (i1 _).mono ?_); rintro e w' ⟨rfl, hw⟩; obtain rfl := hw.symm) | (go_at_call 36; (with_reducible refine (i2 _).mono ?_); rintro e w1 ⟨rfl, hb⟩; have HB : Hid (Below w.heap.size w w1) := hb; clear hb))
      go_ret
      exact ⟨rfl, HB.out⟩
    · rw [if_neg h2] at hz
      subst hz
      go_enter Try.func23, Try.ntmps23
      go_wp2_with (first | (go_at_call 31; (with_reducible refine (i1 _).mono ?_); rintro e w' ⟨rfl, hw⟩; obtain rfl := hw.symm) | (go_at_call 36; (with_reducible refine (i2 _).mono ?_); rintro e w1 ⟨rfl, hb⟩; have HB : Hid (Below w.heap.size w w1) := hb; clear hb))
      go_ret
      exact ⟨rfl, HB.out⟩

set_option maxHeartbeats 4000000 in
theorem are_any {w : World} {v : Value} {n : Nat} {z : Nat → Int} (hv : Il2 w v n z) (hn : n ≤ 1048576) : Calls Try.prog 20 #[v] w fun e w' => e = .returned (.bool (decide (Pok n z))) ∧ Below w.heap.size w w' := by
  obtain ⟨ao, cap, rfl, hcap, hc⟩ := hv
  have HC : Hid (0 < n → ∃ b off, ao = some ⟨b, off, none⟩ ∧ b < w.heap.size ∧ ∀ k, k < n → w.cell? ⟨b, off + k * 2, none⟩ = some (.int .i64 (z (k * 2))) ∧ w.cell? ⟨b, off + k * 2 + 1, none⟩ = some (.int .i64 (z (k * 2 + 1)))) := hc
  clear hc
  obtain ⟨d, hd⟩ : ∃ d, d = decide (Pok n z) := ⟨_, rfl⟩
  rw [← hd]
  have HD : Hid (d = decide (Pok n z)) := hd
  clear hd
  go_enter Try.func20, Try.ntmps20
  go_wp2
  go_loopw [4, 7] (fun _ i wr => ∃ k : Nat, i = .int .i64 (k : Int) ∧ k ≤ n ∧ Hid (Below w.heap.size w wr ∧ ∀ j, j < k → Smp (z (j * 2)) ∧ Smp (z (j * 2 + 1)))) (fun _ i _ => n - (intOf i).toNat)
  case atStart => exact ⟨0, rfl, by omega, Below.refl _ _, fun j hj => by omega⟩
  case round =>
    obtain ⟨k, rfl, hk, hrel⟩ := hrel
    by_cases h1 : k < n
    · obtain ⟨b, off, rfl, hlt, hcell⟩ := HC.out (by omega)
      have c0 := (hrel.out.1.cell (p := ⟨b, off + k * 2, none⟩) hlt).trans (hcell k h1).1
      have c1 := (hrel.out.1.cell (p := ⟨b, off + k * 2 + 1, none⟩) hlt).trans (hcell k h1).2
      obtain ⟨x, hx⟩ : ∃ x, x = z (k * 2) := ⟨_, rfl⟩
      obtain ⟨y, hy⟩ : ∃ y, y = z (k * 2 + 1) := ⟨_, rfl⟩
      rw [← hx] at c0
      rw [← hy] at c1
      have HX : Hid (x = z (k * 2) ∧ y = z (k * 2 + 1)) := ⟨hx, hy⟩
      have HB4 : Hid (Below w.heap.size w (wr.alloc (.cells #[.int .i64 x, .int .i64 y] 31))) := bstep hrel.out.1 (below_one _ _)
      have HJ : Hid (∀ j, j < k → Smp (z (j * 2)) ∧ Smp (z (j * 2 + 1))) := hrel.out.2
      have i1 := iSmp_any x
      have i2 := iSmp_any y
      clear hcell hx hy hrel
      by_cases hs : Smp x
      · rw [decide_eq_true hs] at i1
        by_cases ht : Smp y
        · rw [decide_eq_true ht] at i2
          have HN : Hid (∀ j, j < k + 1 → Smp (z (j * 2)) ∧ Smp (z (j * 2 + 1))) := fun j hj => by
            by_cases h9 : j = k
            · subst h9; rw [← HX.out.1, ← HX.out.2]; exact ⟨hs, ht⟩
            · exact HJ.out j (by omega)
          clear hs ht
          go_wp2_with (first | (go_at_call 34; (with_reducible refine (i1 _).mono ?_); rintro e w' ⟨rfl, hw⟩; obtain rfl := hw.symm) | (go_at_call 34; (with_reducible refine (i2 _).mono ?_); rintro e w' ⟨rfl, hw⟩; obtain rfl := hw.symm))
          go_roundw
          case rel => exact ⟨k + 1, by go_num, by omega, HB4.out, HN.out⟩
          case measure => simp [intOf]; omega
        · rw [decide_eq_false ht] at i2
          have HN : Hid (¬ Pok n z) := fun h9 => ht (by rw [HX.out.2]; exact (h9 k h1).2)
          clear hs ht
          go_wp2_with (first | (go_at_call 34; (with_reducible refine (i1 _).mono ?_); rintro e w' ⟨rfl, hw⟩; obtain rfl := hw.symm) | (go_at_call 34; (with_reducible refine (i2 _).mono ?_); rintro e w' ⟨rfl, hw⟩; obtain rfl := hw.symm))
          go_ret
          exact ⟨congrArg (fun z => Ending.returned (.bool z)) (by rw [HD.out]; exact (decide_eq_false HN.out).symm), HB4.out⟩
      · rw [decide_eq_false hs] at i1
        have HN : Hid (¬ Pok n z) := fun h9 => hs (by rw [HX.out.1]; exact (h9 k h1).1)
        clear hs i2
        go_wp2_with (first | (go_at_call 34; (with_reducible refine (i1 _).mono ?_); rintro e w' ⟨rfl, hw⟩; obtain rfl := hw.symm))
        go_ret
        exact ⟨congrArg (fun z => Ending.returned (.bool z)) (by rw [HD.out]; exact (decide_eq_false HN.out).symm), HB4.out⟩
    · obtain rfl : n = k := by omega
      go_wp2
      go_ret
      exact ⟨congrArg (fun z => Ending.returned (.bool z)) (by rw [HD.out]; exact (decide_eq_true hrel.out.2).symm), hrel.out.1⟩
end Go.Proofs.Ytpoiejmpdlmegaa
