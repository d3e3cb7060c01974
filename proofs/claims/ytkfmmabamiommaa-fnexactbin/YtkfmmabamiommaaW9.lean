/- Bin: the model's, the law. -/
import Derived.Test.YtkfmmabamiommaaW8
namespace Go.Proofs.Ytkfmmabamiommaa
open Go.RowKit

theorem in_drewN {w : World} {v : Value} {n : Nat} {xs : Nat → Int} (h : Il w v n xs) (m : Nat) : Il (w.drewN m) v n xs := h.below (below_drewN (Below.refl _ _) _)

theorem at_0 (k : Nat) (st : Int) : cosv ((k : Int) * st) = cosv (k * st - 0) := by rw [Int.sub_zero]

set_option maxRecDepth 20000 in
set_option maxHeartbeats 4000000 in
theorem sBin_any {w : World} {v : Value} {n : Nat} {xs : Nat → Int} {st : Int} (hv : Il w v n xs) (hn : n ≤ 1048576) (X Y : Int) (ok : Bool)
    (hg : GB n xs st → bnv n xs st 0 = X ∧ bnv n xs st 64 = Y ∧ ok = true) (hb : ¬ GB n xs st → X = 0 ∧ Y = 0 ∧ ok = false) :
    Calls Try.prog 18 #[v, .int .i64 st] w fun e w' => e = .returned (.tuple #[.int .i64 X, .int .i64 Y, .bool ok]) ∧ Below w.heap.size w w' := by
  have i1 := sSig_any hv hn
  have i2 := sSmp_any st
  have HG : Hid (GB n xs st → bnv n xs st 0 = X ∧ bnv n xs st 64 = Y ∧ ok = true) := hg
  have HB : Hid (¬ GB n xs st → X = 0 ∧ Y = 0 ∧ ok = false) := hb
  clear hg hb
  by_cases h1 : Sig n xs
  · rw [decide_eq_true h1] at i1
    by_cases h2 : Smp st
    · rw [decide_eq_true h2] at i2
      obtain ⟨ao, cap, rfl, hcap, hc⟩ := hv
      have HC : Hid (0 < n → ∃ b off, ao = some ⟨b, off, none⟩ ∧ b < w.heap.size ∧ ∀ k, k < n → w.cell? ⟨b, off + k, none⟩ = some (.int .i64 (xs k))) := hc
      clear hc
      have HSg : Hid (Sig n xs) := h1
      have h512 := h1.1
      have i5 := all_any w
      clear h1
      go_enter Try.func18, Try.ntmps18
      go_wp2_with (first | (go_at_call 35; (with_reducible refine (i1).mono ?_); rintro e w' ⟨rfl, hw⟩; obtain rfl := hw.symm) | (go_at_call 31; (with_reducible refine (i2 _).mono ?_); rintro e w' ⟨rfl, hw⟩; obtain rfl := hw.symm) | (go_at_call 26; (refine (i5).mono ?_); rintro e w1 ⟨v1, rfl, hv1, hb1⟩; have F1 : Hid (Il w1 v1 65 ct) := hv1; have B1 : Hid (Below w.heap.size w w1) := hb1; clear hv1 hb1))
      go_loopw [7, 8, 10] (fun x y i wr => ∃ k : Nat, i = .int .i64 k ∧ x = .int .i64 (shr xs st 0 k) ∧ y = .int .i64 (shr xs st 64 k) ∧ k ≤ n ∧ Hid (Below w.heap.size w wr ∧ Il wr v1 65 ct ∧ ∀ j, j < k → Tp (xs j))) (fun _ _ i _ => n - (intOf i).toNat)
      case atStart => exact ⟨0, rfl, rfl, rfl, by omega, B1.out, F1.out, fun j hj => by omega⟩
      case round =>
        obtain ⟨k, rfl, rfl, rfl, hk, hrel⟩ := hrel
        by_cases h3 : k < n
        · obtain ⟨b, off, rfl, hlt, hcell⟩ := HC.out (by omega)
          have c : wr.cell? ⟨b, off + k, none⟩ = some (.int .i64 (xs k)) := (hrel.out.1.cell (p := ⟨b, off + k, none⟩) hlt).trans (hcell k h3)
          clear hcell
          have i3 := in_any (xs k) (-1000000) 1000000
          by_cases ht : -1000000 ≤ xs k ∧ xs k ≤ 1000000
          · rw [decide_eq_true ht] at i3
            have HT : Hid (Tp (xs k)) := ht
            have m1 := mul_bounds (x := (k : Int)) (c := st) (A := 512) (B := 1000000000) (by decide) ⟨by omega, by omega⟩ h2
            have b1 := shr_bounds (st := st) (late := 0) hrel.out.2.2 k (Nat.le_refl _)
            have b2 := shr_bounds (st := st) (late := 64) hrel.out.2.2 k (Nat.le_refl _)
            have m2 := mul_bounds (x := xs k) (c := cosv (k * st - 0)) (A := 1000000) (B := 1073741824) (by decide) ht (cosv_bounds _)
            have m3 := mul_bounds (x := xs k) (c := cosv (k * st - 64)) (A := 1000000) (B := 1073741824) (by decide) ht (cosv_bounds _)
            have t1 := Int.tmod_lt_of_pos (k * st) (show (0 : Int) < 256 by decide)
            have t2 := Int.lt_tmod_of_pos (k * st) (show (0 : Int) < 256 by decide)
            have i6 : ∀ m, Calls Try.prog 25 #[v1, .int .i64 (k * st)] (wr.drewN m) fun e w' => e = .returned (.int .i64 (cosv (k * st - 0))) ∧ w' = wr.drewN m := fun m => by
              rw [← at_0]
              exact at_any (in_drewN hrel.out.2.1 m) _
            have i7 : ∀ W, Il W v1 65 ct → Calls Try.prog 25 #[v1, .int .i64 ((k * st).tmod 256 - 64)] W fun e w' => e = .returned (.int .i64 (cosv (k * st - 64))) ∧ w' = W := fun W h => by
              have := at_any h ((k * st).tmod 256 - 64)
              rw [sin_tmod] at this
              exact this
            have E1 : Hid (shr xs st 0 (k + 1) = shr xs st 0 k + xs k * cosv (k * st - 0)) := rfl
            have E2 : Hid (shr xs st 64 (k + 1) = shr xs st 64 k + xs k * cosv (k * st - 64)) := rfl
            generalize cosv (k * st - 0) = c1 at i6 m2 E1
            generalize cosv (k * st - 64) = c2 at i7 m3 E2
            go_upto_region 10 with (first | (go_at_call 30; (with_reducible refine (i3 _).mono ?_); rintro e w' ⟨rfl, hw⟩; obtain rfl := hw.symm))
            go_quiet ((go_at_call 25; exact Calls.quiet_of_same (i6 _)))
            have c9 : (wr.drewN nq).cell? ⟨b, off + k, none⟩ = some (.int .i64 (xs k)) := by rw [World.cell?_drewN]; exact c
            have I9 : Hid (Il (wr.drewN nq) v1 65 ct) := in_drewN hrel.out.2.1 nq
            have B9 : Hid (Below w.heap.size w (wr.drewN nq)) := below_drewN hrel.out.1 _
            have A9 : Hid (∀ j, j < k → Tp (xs j)) := hrel.out.2.2
            clear hrel c i6
            generalize wr.drewN nq = W9 at *
            have i8 : ∀ m, Calls Try.prog 25 #[v1, .int .i64 ((k * st).tmod 256 - 64)] (W9.drewN m) fun e w' => e = .returned (.int .i64 c2) ∧ w' = W9.drewN m := fun m => i7 _ (in_drewN I9.out m)
            clear i7
            go_upto_region 11 with fail
            go_quiet ((go_at_call 25; exact Calls.quiet_of_same (i8 _)))
            go_wp2
            go_roundw
            case rel =>
              refine ⟨k + 1, by go_num, by rw [E1.out], by rw [E2.out], by omega, below_drewN B9.out _, in_drewN I9.out _, fun j hj => ?_⟩
              by_cases hjk : j = k
              · subst hjk; exact HT.out
              · exact A9.out j (by omega)
            case measure => simp [intOf]; omega
          · rw [decide_eq_false ht] at i3
            have HT : Hid (¬ Tp (xs k)) := ht
            obtain ⟨rfl, rfl, rfl⟩ := HB.out (fun h => HT.out (h.1.2 k h3))
            clear ht
            go_wp2_with (first | (go_at_call 30; (with_reducible refine (i3 _).mono ?_); rintro e w' ⟨rfl, hw⟩; obtain rfl := hw.symm))
            go_ret3
            exact ⟨rfl, hrel.out.1⟩
        · obtain rfl : n = k := by omega
          have j1 := sShift_any (shr xs st 0 n) 30 3
          have j2 := sShift_any (shr xs st 64 n) 30 3
          obtain ⟨e1, e2, rfl⟩ := HG.out ⟨⟨HSg.out, hrel.out.2.2⟩, h2⟩
          have e3 : shV (shr xs st 0 n) 30 3 = X := e1
          have e4 : shV (shr xs st 64 n) 30 3 = Y := e2
          rw [e3] at j1
          rw [e4] at j2
          clear e1 e2 e3 e4
          go_wp2_with (first | (go_at_call 36; (with_reducible refine (j1 _).mono ?_); rintro e w' ⟨rfl, hw⟩; obtain rfl := hw.symm) | (go_at_call 36; (with_reducible refine (j2 _).mono ?_); rintro e w' ⟨rfl, hw⟩; obtain rfl := hw.symm))
          go_ret3
          exact ⟨rfl, hrel.out.1⟩
    · rw [decide_eq_false h2] at i2
      obtain ⟨rfl, rfl, rfl⟩ := HB.out (fun h => h2 h.2)
      obtain ⟨ao, cap, rfl, hcap, hc⟩ := hv
      clear hc h1 h2
      go_enter Try.func18, Try.ntmps18
      go_wp2_with (first | (go_at_call 35; (with_reducible refine (i1).mono ?_); rintro e w' ⟨rfl, hw⟩; obtain rfl := hw.symm) | (go_at_call 31; (with_reducible refine (i2 _).mono ?_); rintro e w' ⟨rfl, hw⟩; obtain rfl := hw.symm))
      go_ret3
      exact ⟨rfl, Below.refl _ _⟩
  · rw [decide_eq_false h1] at i1
    obtain ⟨rfl, rfl, rfl⟩ := HB.out (fun h => h1 h.1.1)
    obtain ⟨ao, cap, rfl, hcap, hc⟩ := hv
    clear hc h1 i2
    go_enter Try.func18, Try.ntmps18
    go_wp2_with (first | (go_at_call 35; (with_reducible refine (i1).mono ?_); rintro e w' ⟨rfl, hw⟩; obtain rfl := hw.symm))
    go_ret3
    exact ⟨rfl, Below.refl _ _⟩

set_option maxHeartbeats 2000000 in
theorem bin_of {w : World} {v : Value} {n : Nat} {xs : Nat → Int} {st : Int} (hv : Il w v n xs) (hn : n ≤ 9223372036854775807) (X Y : Int) (ok : Bool)
    (hs : n ≤ 1048576 → ∀ W u, Il W u n xs → Calls Try.prog 18 #[u, .int .i64 st] W fun e w' => e = .returned (.tuple #[.int .i64 X, .int .i64 Y, .bool ok]) ∧ Below W.heap.size W w')
    (hi : n ≤ 1048576 → ∀ W u, Il W u n xs → Calls Try.prog 20 #[u, .int .i64 st] W fun e w' => e = .returned (.tuple #[.int .i64 X, .int .i64 Y, .bool ok]) ∧ Below W.heap.size W w') :
    Calls Try.prog 6 #[v, .int .i64 st] w fun e w' => e = .returned (.bool true) ∧ Below w.heap.size w w' := by
  by_cases h : n ≤ 1048576
  · have FV : Hid (Il w v n xs) := hv
    have HS : Hid (∀ W u, Il W u n xs → Calls Try.prog 18 #[u, .int .i64 st] W fun e w' => e = .returned (.tuple #[.int .i64 X, .int .i64 Y, .bool ok]) ∧ Below W.heap.size W w') := hs h
    have HI : Hid (∀ W u, Il W u n xs → Calls Try.prog 20 #[u, .int .i64 st] W fun e w' => e = .returned (.tuple #[.int .i64 X, .int .i64 Y, .bool ok]) ∧ Below W.heap.size W w') := hi h
    obtain ⟨ao, cap, rfl, hcap, hc⟩ := hv
    clear hc hs hi
    go_enter Try.func6, Try.ntmps6
    go_wp2_with (first
      | (go_at_call 19; (fail_if_success have := M1); refine (copy_own FV.out h).mono ?_; rintro e w1 ⟨hb1, v1, rfl, hf1, _⟩; have M1 : Hid True := trivial; have F1 : Hid (Il w1 v1 n xs) := hf1; have B1 : Hid (Below w.heap.size w w1) := hb1; clear hf1 hb1)
      | (go_at_call 18; (fail_if_success have := M2); refine (HS.out _ _ F1.out).mono ?_; rintro e w2 ⟨rfl, hb2⟩; have M2 : Hid True := trivial; have B2 : Hid (Below w.heap.size w w2) := bstep B1.out hb2; clear hb2)
      | (go_at_call 19; have Z := M2; (fail_if_success have := M3); refine (copy_own (Il.below FV.out B2.out) h).mono ?_; rintro e w3 ⟨hb3, x0, rfl, hf3, _⟩; have M3 : Hid True := trivial; have FX : Hid (Il w3 x0 n xs) := hf3; have B3 : Hid (Below w.heap.size w w3) := bstep B2.out hb3; clear hf3 hb3)
      | (go_at_call 20; have Z := M3; (fail_if_success have := M4); refine (HI.out _ _ FX.out).mono ?_; rintro e w4 ⟨rfl, hb4⟩; have M4 : Hid True := trivial; have FX4 : Hid (Il w4 x0 n xs) := Il.below FX.out hb4; have B4 : Hid (Below w.heap.size w w4) := bstep B3.out hb4; clear hb4)
      | (go_at_call 19; have Z := M4; (fail_if_success have := M5); refine (copy_own (Il.below FV.out B4.out) h).mono ?_; rintro e w5 ⟨hb5, y0, rfl, hf5, _⟩; have M5 : Hid True := trivial; have FY : Hid (Il w5 y0 n xs) := hf5; have FX5 : Hid (Il w5 x0 n xs) := Il.below FX4.out hb5; have B5 : Hid (Below w.heap.size w w5) := bstep B4.out hb5; clear hf5 hb5)
      | (go_at_call 15; have Z := M5; refine (eq_yes FX5.out FY.out h).mono ?_; rintro e w6 ⟨rfl, hb6⟩; have B6 : Hid (Below w.heap.size w w6) := bstep B5.out hb6; clear hb6))
    go_ret
    exact ⟨rfl, B6.out⟩
  · obtain ⟨ao, cap, rfl, hcap, hc⟩ := hv
    clear hc hs hi
    go_enter Try.func6, Try.ntmps6
    go_wp2
    go_ret
    exact ⟨rfl, Below.refl _ _⟩

theorem walk_bin {w : World} {v : Value} {n : Nat} {xs : Nat → Int} (hv : Il w v n xs) (hn : n ≤ 9223372036854775807) (st : Int) : Calls Try.prog 6 #[v, .int .i64 st] w fun e w' => e = .returned (.bool true) ∧ Below w.heap.size w w' := by
  by_cases hg : GB n xs st
  · exact bin_of hv hn (bnv n xs st 0) (bnv n xs st 64) true (fun h W u hu => sBin_any hu h _ _ _ (fun _ => ⟨rfl, rfl, rfl⟩) (fun h => absurd hg h)) (fun h W u hu => iBin_any hu h _ _ _ (fun _ => ⟨rfl, rfl, rfl⟩) (fun h => absurd hg h))
  · exact bin_of hv hn 0 0 false (fun h W u hu => sBin_any hu h _ _ _ (fun h => absurd h hg) (fun _ => ⟨rfl, rfl, rfl⟩)) (fun h W u hu => iBin_any hu h _ _ _ (fun h => absurd h hg) (fun _ => ⟨rfl, rfl, rfl⟩))
end Go.Proofs.Ytkfmmabamiommaa
