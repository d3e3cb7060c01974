/- Words: which arguments are good, MulFix. -/
import Derived.Test.YtnabpijackgmnaaB0
import Derived.Test.YtnabpijackgmnaaA4
namespace Go.Proofs.Ytnabpijackgmnaa
open Go.RowKit

/-- Good places, width and rule. -/
abbrev Fx (f b c : Int) : Prop := (0 ≤ f ∧ f ≤ 24) ∧ (1 ≤ b ∧ b ≤ 24) ∧ (1 ≤ c ∧ c ≤ 4)

set_option maxHeartbeats 1000000 in
theorem sFix_any (f b c : Int) (w : World) : Calls Try.prog 49 #[.int .i64 f, .int .i64 b, .int .i64 c] w fun e w' => e = .returned (.bool (decide (Fx f b c))) ∧ w' = w := by
  have i1 := in_any b 1 24
  have i2 := in_any f 0 24
  have i3 := sCut_any c
  obtain ⟨d, hd⟩ : ∃ d, d = decide (Fx f b c) := ⟨_, rfl⟩
  rw [← hd]
  have HD : Hid _ := hd
  clear hd
  by_cases h1 : 1 ≤ b ∧ b ≤ 24
  · rw [decide_eq_true h1] at i1
    by_cases h2 : 0 ≤ f ∧ f ≤ 24
    · rw [decide_eq_true h2] at i2
      by_cases h3 : 1 ≤ c ∧ c ≤ 4
      · rw [decide_eq_true h3] at i3
        have E : Hid (true = d) := by rw [HD.out]; exact (decide_eq_true ⟨h2, h1, h3⟩).symm
        clear h1 h2 h3
        go_enter Try.func49, Try.ntmps49
        go_wp2_with (first | (go_at_call 34; (with_reducible refine (i1 _).mono ?_); rintro e w' ⟨rfl, hw⟩; obtain rfl := hw.symm) | (go_at_call 34; (with_reducible refine (i2 _).mono ?_); rintro e w' ⟨rfl, hw⟩; obtain rfl := hw.symm) | (go_at_call 61; (with_reducible refine (i3 _).mono ?_); rintro e w' ⟨rfl, hw⟩; obtain rfl := hw.symm))
        go_ret
        exact ⟨congrArg (fun z => Ending.returned (.bool z)) E.out, rfl⟩
      · rw [decide_eq_false h3] at i3
        have E : Hid (false = d) := by rw [HD.out]; exact (decide_eq_false (fun h => h3 h.2.2)).symm
        clear h1 h2 h3
        go_enter Try.func49, Try.ntmps49
        go_wp2_with (first | (go_at_call 34; (with_reducible refine (i1 _).mono ?_); rintro e w' ⟨rfl, hw⟩; obtain rfl := hw.symm) | (go_at_call 34; (with_reducible refine (i2 _).mono ?_); rintro e w' ⟨rfl, hw⟩; obtain rfl := hw.symm) | (go_at_call 61; (with_reducible refine (i3 _).mono ?_); rintro e w' ⟨rfl, hw⟩; obtain rfl := hw.symm))
        go_ret
        exact ⟨congrArg (fun z => Ending.returned (.bool z)) E.out, rfl⟩
    · rw [decide_eq_false h2] at i2
      have E : Hid (false = d) := by rw [HD.out]; exact (decide_eq_false (fun h => h2 h.1)).symm
      clear h1 h2
      go_enter Try.func49, Try.ntmps49
      go_wp2_with (first | (go_at_call 34; (with_reducible refine (i1 _).mono ?_); rintro e w' ⟨rfl, hw⟩; obtain rfl := hw.symm) | (go_at_call 34; (with_reducible refine (i2 _).mono ?_); rintro e w' ⟨rfl, hw⟩; obtain rfl := hw.symm) | (go_at_call 61; (with_reducible refine (i3 _).mono ?_); rintro e w' ⟨rfl, hw⟩; obtain rfl := hw.symm))
      go_ret
      exact ⟨congrArg (fun z => Ending.returned (.bool z)) E.out, rfl⟩
  · rw [decide_eq_false h1] at i1
    have E : Hid (false = d) := by rw [HD.out]; exact (decide_eq_false (fun h => h1 h.2.1)).symm
    clear h1
    go_enter Try.func49, Try.ntmps49
    go_wp2_with (first | (go_at_call 34; (with_reducible refine (i1 _).mono ?_); rintro e w' ⟨rfl, hw⟩; obtain rfl := hw.symm) | (go_at_call 34; (with_reducible refine (i2 _).mono ?_); rintro e w' ⟨rfl, hw⟩; obtain rfl := hw.symm) | (go_at_call 61; (with_reducible refine (i3 _).mono ?_); rintro e w' ⟨rfl, hw⟩; obtain rfl := hw.symm))
    go_ret
    exact ⟨congrArg (fun z => Ending.returned (.bool z)) E.out, rfl⟩

set_option maxHeartbeats 1000000 in
theorem iFix_any (f b c : Int) (w : World) : Calls Try.prog 42 #[.int .i64 f, .int .i64 b, .int .i64 c] w fun e w' => e = .returned (.bool (decide (Fx f b c))) ∧ w' = w := by
  have i1 := width_any b
  have i3 := cut_any c
  obtain ⟨d, hd⟩ : ∃ d, d = decide (Fx f b c) := ⟨_, rfl⟩
  rw [← hd]
  have HD : Hid _ := hd
  clear hd
  by_cases h0 : 0 ≤ f
  · by_cases h2 : f ≤ 24
    · by_cases h1 : 1 ≤ b ∧ b ≤ 24
      · rw [decide_eq_true h1] at i1
        by_cases h3 : 1 ≤ c ∧ c ≤ 4
        · rw [decide_eq_true h3] at i3
          have E : Hid (true = d) := by rw [HD.out]; exact (decide_eq_true ⟨⟨h0, h2⟩, h1, h3⟩).symm
          clear h1 h3
          go_enter Try.func42, Try.ntmps42
          go_wp2_with (first | (go_at_call 54; (with_reducible refine (i1 _).mono ?_); rintro e w' ⟨rfl, hw⟩; obtain rfl := hw.symm) | (go_at_call 36; (with_reducible refine (i3 _).mono ?_); rintro e w' ⟨rfl, hw⟩; obtain rfl := hw.symm))
          go_ret
          exact ⟨congrArg (fun z => Ending.returned (.bool z)) E.out, rfl⟩
        · rw [decide_eq_false h3] at i3
          have E : Hid (false = d) := by rw [HD.out]; exact (decide_eq_false (fun h => h3 h.2.2)).symm
          clear h1 h3
          go_enter Try.func42, Try.ntmps42
          go_wp2_with (first | (go_at_call 54; (with_reducible refine (i1 _).mono ?_); rintro e w' ⟨rfl, hw⟩; obtain rfl := hw.symm) | (go_at_call 36; (with_reducible refine (i3 _).mono ?_); rintro e w' ⟨rfl, hw⟩; obtain rfl := hw.symm))
          go_ret
          exact ⟨congrArg (fun z => Ending.returned (.bool z)) E.out, rfl⟩
      · rw [decide_eq_false h1] at i1
        have E : Hid (false = d) := by rw [HD.out]; exact (decide_eq_false (fun h => h1 h.2.1)).symm
        clear h1
        go_enter Try.func42, Try.ntmps42
        go_wp2_with (first | (go_at_call 54; (with_reducible refine (i1 _).mono ?_); rintro e w' ⟨rfl, hw⟩; obtain rfl := hw.symm) | (go_at_call 36; (with_reducible refine (i3 _).mono ?_); rintro e w' ⟨rfl, hw⟩; obtain rfl := hw.symm))
        go_ret
        exact ⟨congrArg (fun z => Ending.returned (.bool z)) E.out, rfl⟩
    · have E : Hid (false = d) := by rw [HD.out]; exact (decide_eq_false (fun h => h2 h.1.2)).symm
      go_enter Try.func42, Try.ntmps42
      go_wp2_with (first | (go_at_call 54; (with_reducible refine (i1 _).mono ?_); rintro e w' ⟨rfl, hw⟩; obtain rfl := hw.symm) | (go_at_call 36; (with_reducible refine (i3 _).mono ?_); rintro e w' ⟨rfl, hw⟩; obtain rfl := hw.symm))
      go_ret
      exact ⟨congrArg (fun z => Ending.returned (.bool z)) E.out, rfl⟩
  · have E : Hid (false = d) := by rw [HD.out]; exact (decide_eq_false (fun h => h0 h.1.1)).symm
    go_enter Try.func42, Try.ntmps42
    go_wp2_with (first | (go_at_call 54; (with_reducible refine (i1 _).mono ?_); rintro e w' ⟨rfl, hw⟩; obtain rfl := hw.symm) | (go_at_call 36; (with_reducible refine (i3 _).mono ?_); rintro e w' ⟨rfl, hw⟩; obtain rfl := hw.symm))
    go_ret
    exact ⟨congrArg (fun z => Ending.returned (.bool z)) E.out, rfl⟩

/-- A word of half P. -/
abbrev Wrd (P x : Int) : Prop := clp x P = x

theorem Wrd.bounds {P x : Int} (h : Wrd P x) (_ : 1 ≤ P) : -P ≤ x ∧ x ≤ P - 1 := by
  unfold Wrd clp at h
  split at h
  · omega
  · split at h
    · omega
    · omega

set_option maxHeartbeats 1000000 in
theorem sWord_any (x b : Int) (hb : 1 ≤ b ∧ b ≤ 24) (w : World) : Calls Try.prog 50 #[.int .i64 x, .int .i64 b] w fun e w' => e = .returned (.bool (decide (Wrd (hf b) x))) ∧ w' = w := by
  have i1 := sClip_any x b
  rw [← clV_yes hb] at i1
  unfold Wrd
  generalize clp x (hf b) = y at i1
  clear hb
  go_enter Try.func50, Try.ntmps50
  go_wp2_with (first | (go_at_call 51; (with_reducible refine (i1 _).mono ?_); rintro e w' ⟨rfl, hw⟩; obtain rfl := hw.symm))
  go_ret
  exact ⟨rfl, rfl⟩

/-- All are words. -/
def allW (P : Int) (xs : Nat → Int) (n : Nat) : Bool := decide (∀ k, k < n → Wrd P (xs k))
theorem allW_yes {P : Int} {xs : Nat → Int} {n : Nat} (h : ∀ k, k < n → Wrd P (xs k)) : allW P xs n = true := decide_eq_true h
theorem allW_no {P : Int} {xs : Nat → Int} {n : Nat} (h : ¬ ∀ k, k < n → Wrd P (xs k)) : allW P xs n = false := decide_eq_false h

set_option maxHeartbeats 1000000 in
theorem words_any {w : World} {v : Value} {n : Nat} {xs : Nat → Int} {P : Int} (hP : 1 ≤ P) (hv : Il w v n xs) (hn : n ≤ 1048576) : Calls Try.prog 45 #[v, .func (.func 44) #[.agg #[.int .i64 (-P), .int .i64 (P - 1)]] #[]] w fun e w' => e = .returned (.bool (allW P xs n)) ∧ Below w.heap.size w w' := by
  obtain ⟨ao, cap, rfl, hcap, hc⟩ := hv
  have HC : Hid (0 < n → ∃ b off, ao = some ⟨b, off, none⟩ ∧ b < w.heap.size ∧ ∀ k, k < n → w.cell? ⟨b, off + k, none⟩ = some (.int .i64 (xs k))) := hc
  clear hc
  obtain ⟨d, hd⟩ : ∃ d, d = allW P xs n := ⟨_, rfl⟩
  rw [← hd]
  have HD : Hid _ := hd
  clear hd
  go_enter Try.func45, Try.ntmps45
  go_wp2
  go_loopw [6, 9] (fun _ i wr => ∃ k : Nat, i = .int .i64 k ∧ k ≤ n ∧ Hid ((∀ j, j < k → Wrd P (xs j)) ∧ Below w.heap.size w wr)) (fun _ i _ => n - (intOf i).toNat)
  case atStart => exact ⟨0, rfl, by omega, fun j hj => by omega, Below.refl _ _⟩
  case round =>
    obtain ⟨k, rfl, hk, hrel⟩ := hrel
    by_cases h1 : k < n
    · obtain ⟨b, off, rfl, hlt, hcell⟩ := HC.out (by omega)
      have c : wr.cell? ⟨b, off + k, none⟩ = some (.int .i64 (xs k)) := (hrel.out.2.cell (p := ⟨b, off + k, none⟩) hlt).trans (hcell k h1)
      clear hcell
      have i1 := clip_any P (xs k) hP
      by_cases hs : Wrd P (xs k)
      · have HS : Hid _ := hs
        unfold Wrd at hs
        rw [hs] at i1
        clear hs
        go_wp2_with (first | (go_at_call 44; (with_reducible refine (i1 _).mono ?_); rintro e w' ⟨rfl, hb1⟩))
        go_roundw
        case rel =>
          refine ⟨k + 1, by go_num, by omega, fun j hj => ?_, bstep hrel.out.2 hb1⟩
          by_cases hjk : j = k
          · subst hjk; exact HS.out
          · exact hrel.out.1 j (by omega)
        case measure => simp [intOf]; omega
      · have HS : Hid _ := hs
        unfold Wrd at hs
        generalize clp (xs k) P = y at i1 hs
        go_wp2_with (first | (go_at_call 44; (with_reducible refine (i1 _).mono ?_); rintro e w' ⟨rfl, hb1⟩))
        go_ret
        exact ⟨congrArg (fun z => Ending.returned (.bool z)) (by rw [HD.out]; exact (allW_no (fun h => HS.out (h k h1))).symm), bstep hrel.out.2 hb1⟩
    · obtain rfl : k = n := by omega
      go_wp2
      go_ret
      exact ⟨congrArg (fun z => Ending.returned (.bool z)) (by rw [HD.out]; exact (allW_yes hrel.out.1).symm), hrel.out.2⟩

theorem mul_bounds {a b M : Int} (ha : -M ≤ a ∧ a ≤ M) (hb : -M ≤ b ∧ b ≤ M) : -(M * M) ≤ a * b ∧ a * b ≤ M * M := by
  have h1 := Int.mul_nonneg (show 0 ≤ M - a by omega) (show 0 ≤ M - b by omega)
  have h2 := Int.mul_nonneg (show 0 ≤ M + a by omega) (show 0 ≤ M + b by omega)
  have h3 := Int.mul_nonneg (show 0 ≤ M - a by omega) (show 0 ≤ M + b by omega)
  have h4 := Int.mul_nonneg (show 0 ≤ M + a by omega) (show 0 ≤ M - b by omega)
  have e1 : (M - a) * (M - b) = M * M - M * a - M * b + a * b := by grind
  have e2 : (M + a) * (M + b) = M * M + M * a + M * b + a * b := by grind
  have e3 : (M - a) * (M + b) = M * M - M * a + M * b - a * b := by grind
  have e4 : (M + a) * (M - b) = M * M + M * a - M * b - a * b := by grind
  omega

theorem word_mul {P a b : Int} (hP : 1 ≤ P) (hP2 : P ≤ 8388608) (ha : Wrd P a) (hb : Wrd P b) : -70368744177664 ≤ a * b ∧ a * b ≤ 70368744177664 := by
  have h1 := ha.bounds hP
  have h2 := hb.bounds hP
  have := mul_bounds (a := a) (b := b) (M := 8388608) (by omega) (by omega)
  omega

/-- What MulFix answers. -/
def mfV (x y f b c : Int) : Int := if Fx f b c ∧ Wrd (hf b) x ∧ Wrd (hf b) y then clp (shV (x * y) f c) (hf b) else 0
theorem mfV_yes {x y f b c : Int} (h : Fx f b c ∧ Wrd (hf b) x ∧ Wrd (hf b) y) : clp (shV (x * y) f c) (hf b) = mfV x y f b c := by unfold mfV; rw [if_pos h]
theorem mfV_no {x y f b c : Int} (h : ¬ (Fx f b c ∧ Wrd (hf b) x ∧ Wrd (hf b) y)) : 0 = mfV x y f b c := by unfold mfV; rw [if_neg h]

set_option maxHeartbeats 1000000 in
theorem sMul_any (x y f b c : Int) (w : World) : Calls Try.prog 52 #[.int .i64 x, .int .i64 y, .int .i64 f, .int .i64 b, .int .i64 c] w fun e w' => e = .returned (.int .i64 (mfV x y f b c)) ∧ w' = w := by
  have i1 := sFix_any f b c
  by_cases h : Fx f b c
  · rw [decide_eq_true h] at i1
    have i2 := sWord_any x b h.2.1
    have i3 := sWord_any y b h.2.1
    by_cases hx : Wrd (hf b) x
    · rw [decide_eq_true hx] at i2
      by_cases hy : Wrd (hf b) y
      · rw [decide_eq_true hy] at i3
        have E : Hid _ := mfV_yes ⟨h, hx, hy⟩
        have hp := half_bounds h.2.1
        have hm := word_mul hp.1 hp.2 hx hy
        have i4 := sShift_any (x * y) f c
        have i5 := sClip_any (shV (x * y) f c) b
        rw [← clV_yes h.2.1] at i5
        generalize clp (shV (x * y) f c) (hf b) = R at i5 E
        generalize shV (x * y) f c = S at i4 i5
        clear h hx hy hp
        go_enter Try.func52, Try.ntmps52
        go_wp2_with (first | (go_at_call 49; (with_reducible refine (i1 _).mono ?_); rintro e w' ⟨rfl, hw⟩; obtain rfl := hw.symm) | (go_at_call 50; (with_reducible refine (i2 _).mono ?_); rintro e w' ⟨rfl, hw⟩; obtain rfl := hw.symm) | (go_at_call 50; (with_reducible refine (i3 _).mono ?_); rintro e w' ⟨rfl, hw⟩; obtain rfl := hw.symm) | (go_at_call 53; (with_reducible refine (i4 _).mono ?_); rintro e w' ⟨rfl, hw⟩; obtain rfl := hw.symm) | (go_at_call 51; (with_reducible refine (i5 _).mono ?_); rintro e w' ⟨rfl, hw⟩; obtain rfl := hw.symm))
        go_ret
        exact ret1 E.out rfl
      · rw [decide_eq_false hy] at i3
        have E : Hid _ := mfV_no (x := x) (f := f) (c := c) (fun h => hy h.2.2)
        clear h hx hy
        go_enter Try.func52, Try.ntmps52
        go_wp2_with (first | (go_at_call 49; (with_reducible refine (i1 _).mono ?_); rintro e w' ⟨rfl, hw⟩; obtain rfl := hw.symm) | (go_at_call 50; (with_reducible refine (i2 _).mono ?_); rintro e w' ⟨rfl, hw⟩; obtain rfl := hw.symm) | (go_at_call 50; (with_reducible refine (i3 _).mono ?_); rintro e w' ⟨rfl, hw⟩; obtain rfl := hw.symm))
        go_ret
        exact ret1 E.out rfl
    · rw [decide_eq_false hx] at i2
      have E : Hid _ := mfV_no (y := y) (f := f) (c := c) (fun h => hx h.2.1)
      clear h hx
      go_enter Try.func52, Try.ntmps52
      go_wp2_with (first | (go_at_call 49; (with_reducible refine (i1 _).mono ?_); rintro e w' ⟨rfl, hw⟩; obtain rfl := hw.symm) | (go_at_call 50; (with_reducible refine (i2 _).mono ?_); rintro e w' ⟨rfl, hw⟩; obtain rfl := hw.symm) | (go_at_call 50; (with_reducible refine (i3 _).mono ?_); rintro e w' ⟨rfl, hw⟩; obtain rfl := hw.symm))
      go_ret
      exact ret1 E.out rfl
  · rw [decide_eq_false h] at i1
    have E : Hid _ := mfV_no (x := x) (y := y) (fun h' => h h'.1)
    clear h
    go_enter Try.func52, Try.ntmps52
    go_wp2_with (first | (go_at_call 49; (with_reducible refine (i1 _).mono ?_); rintro e w' ⟨rfl, hw⟩; obtain rfl := hw.symm))
    go_ret
    exact ret1 E.out rfl
end Go.Proofs.Ytnabpijackgmnaa
