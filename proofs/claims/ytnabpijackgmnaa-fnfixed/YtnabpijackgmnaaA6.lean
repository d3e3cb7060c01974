/- MulFix: the program's, the law's walk. -/
import Derived.Test.YtnabpijackgmnaaA5
namespace Go.Proofs.Ytnabpijackgmnaa
open Go.RowKit

/-- Two numbers as a list. -/
def two (x y : Int) (k : Nat) : Int := if k = 0 then x else y

theorem two_all {x y P : Int} : (∀ k, k < 2 → Wrd P (two x y k)) ↔ (Wrd P x ∧ Wrd P y) := by
  constructor
  · intro h
    exact ⟨h 0 (by omega), h 1 (by omega)⟩
  · intro h k hk
    obtain rfl | rfl : k = 0 ∨ k = 1 := by omega
    · exact h.1
    · exact h.2

theorem il_two (w : World) (x y : Int) : Il (w.alloc (.cells #[.int .i64 x, .int .i64 y] 3)) (.slice (some ⟨w.heap.size, 0, none⟩) 2 2) 2 (two x y) := by
  refine ⟨_, _, rfl, Nat.le_refl _, fun _ => ⟨_, 0, rfl, by simp, fun k hk => ?_⟩⟩
  obtain rfl | rfl : k = 0 ∨ k = 1 := by omega
  · simp [two]
  · simp [two]

set_option maxHeartbeats 1000000 in
theorem iMul_any (x y f b c : Int) (w : World) : Calls Try.prog 19 #[.int .i64 x, .int .i64 y, .int .i64 f, .int .i64 b, .int .i64 c] w fun e w' => e = .returned (.int .i64 (mfV x y f b c)) ∧ Below w.heap.size w w' := by
  have i1 := iFix_any f b c
  by_cases h : Fx f b c
  · rw [decide_eq_true h] at i1
    have i2 := wordOf_any b h.2.1
    have hp := half_bounds h.2.1
    have i4 := iShift_any (x * y) f c
    by_cases hxy : Wrd (hf b) x ∧ Wrd (hf b) y
    · have E : Hid _ := mfV_yes ⟨h, hxy⟩
      have hm := word_mul hp.1 hp.2 hxy.1 hxy.2
      have HT : Hid (allW (hf b) (two x y) 2 = true) := allW_yes (two_all.2 hxy)
      have i5 := clip_any (hf b) (shV (x * y) f c) hp.1
      have HW : Hid (∀ W v, Il W v 2 (two x y) → Calls Try.prog 45 #[v, .func (.func 44) #[.agg #[.int .i64 (-hf b), .int .i64 (hf b - 1)]] #[]] W fun e w' => e = .returned (.bool true) ∧ Below W.heap.size W w') := fun W v hv => by rw [← HT.out]; exact words_any hp.1 hv (by omega)
      clear HT h hxy hp
      generalize clp (shV (x * y) f c) (hf b) = R at i5 E
      generalize shV (x * y) f c = S at i4 i5
      generalize hf b = P at *
      go_enter Try.func19, Try.ntmps19
      go_wp2_with (first | (go_at_call 42; (with_reducible refine (i1 _).mono ?_); rintro e w' ⟨rfl, hw⟩; obtain rfl := hw.symm) | (go_at_call 43; (with_reducible refine (i2 _).mono ?_); rintro e w' ⟨rfl, hb1⟩) | (go_at_call 45; refine (HW.out _ _ (il_two _ x y)).mono ?_; rintro e w3 ⟨rfl, hb3⟩; have B3 : Hid (Below w.heap.size w w3) := bstep (bstep hb1 (below_one _ _)) hb3; clear hb3) | (go_at_call 13; (with_reducible refine (i4 _).mono ?_); rintro e w' ⟨rfl, hw⟩; obtain rfl := hw.symm) | (go_at_call 44; (with_reducible refine (i5 _).mono ?_); rintro e w' ⟨rfl, hb4⟩))
      go_ret
      exact ⟨congrArg (fun z => Ending.returned (.int .i64 z)) E.out, bstep B3.out hb4⟩
    · have E : Hid _ := mfV_no (x := x) (y := y) (b := b) (f := f) (c := c) (fun h => hxy h.2)
      have HT : Hid (allW (hf b) (two x y) 2 = false) := allW_no (fun h => hxy (two_all.1 h))
      have HW : Hid (∀ W v, Il W v 2 (two x y) → Calls Try.prog 45 #[v, .func (.func 44) #[.agg #[.int .i64 (-hf b), .int .i64 (hf b - 1)]] #[]] W fun e w' => e = .returned (.bool false) ∧ Below W.heap.size W w') := fun W v hv => by rw [← HT.out]; exact words_any hp.1 hv (by omega)
      clear i4 HT h hxy hp
      generalize hf b = P at *
      go_enter Try.func19, Try.ntmps19
      go_wp2_with (first | (go_at_call 42; (with_reducible refine (i1 _).mono ?_); rintro e w' ⟨rfl, hw⟩; obtain rfl := hw.symm) | (go_at_call 43; (with_reducible refine (i2 _).mono ?_); rintro e w' ⟨rfl, hb1⟩) | (go_at_call 45; refine (HW.out _ _ (il_two _ x y)).mono ?_; rintro e w3 ⟨rfl, hb3⟩; have B3 : Hid (Below w.heap.size w w3) := bstep (bstep hb1 (below_one _ _)) hb3; clear hb3) | (go_at_call 13; (with_reducible refine (i4 _).mono ?_); rintro e w' ⟨rfl, hw⟩; obtain rfl := hw.symm) | (go_at_call 44; (with_reducible refine (i5 _).mono ?_); rintro e w' ⟨rfl, hb4⟩))
      go_ret
      exact ⟨congrArg (fun z => Ending.returned (.int .i64 z)) E.out, B3.out⟩
  · rw [decide_eq_false h] at i1
    have E : Hid _ := mfV_no (x := x) (y := y) (fun h' => h h'.1)
    clear h
    go_enter Try.func19, Try.ntmps19
    go_wp2_with (first | (go_at_call 42; (with_reducible refine (i1 _).mono ?_); rintro e w' ⟨rfl, hw⟩; obtain rfl := hw.symm))
    go_ret
    exact ⟨congrArg (fun z => Ending.returned (.int .i64 z)) E.out, Below.refl _ _⟩

end Go.Proofs.Ytnabpijackgmnaa
