/- Turn. -/
import Derived.Test.YtkfmmabamiommaaW3
import Derived.Test.YtkfmmabamiommaaB1
namespace Go.Proofs.Ytkfmmabamiommaa
open Go.RowKit

theorem mul_bounds {x c : Int} {A B : Int} (hA : 0 ≤ A) (hx : -A ≤ x ∧ x ≤ A) (hc : -B ≤ c ∧ c ≤ B) : -(A * B) ≤ x * c ∧ x * c ≤ A * B := by
  have hB : 0 ≤ B := by omega
  have h1 : (x * c).natAbs ≤ A.natAbs * B.natAbs := by rw [Int.natAbs_mul]; exact Nat.mul_le_mul (by omega) (by omega)
  have h2 : ((A.natAbs * B.natAbs : Nat) : Int) = A * B := by rw [Int.natCast_mul, Int.natAbs_of_nonneg hA, Int.natAbs_of_nonneg hB]
  omega

/-- What Turn answers. -/
def tnX (x y s : Int) : Int := if Smp x ∧ Smp y then rdV (x * cosv s - y * sinv s) 1073741824 else 0
def tnY (x y s : Int) : Int := if Smp x ∧ Smp y then rdV (x * sinv s + y * cosv s) 1073741824 else 0

theorem turn_facts (x y s : Int) (hx : Smp x) (hy : Smp y) : ∃ c n X Y p1 p2 p3 p4 : Int, cosv s = c ∧ sinv s = n ∧ x * c = p1 ∧ y * n = p2 ∧ x * n = p3 ∧ y * c = p4 ∧ rdV (p1 - p2) 1073741824 = X ∧ rdV (p3 + p4) 1073741824 = Y ∧ tnX x y s = X ∧ tnY x y s = Y ∧ (-1073741824 ≤ c ∧ c ≤ 1073741824) ∧ (-1073741824 ≤ n ∧ n ≤ 1073741824) ∧ (-1073741824000000000 ≤ p1 ∧ p1 ≤ 1073741824000000000) ∧ (-1073741824000000000 ≤ p2 ∧ p2 ≤ 1073741824000000000) ∧ (-1073741824000000000 ≤ p3 ∧ p3 ≤ 1073741824000000000) ∧ (-1073741824000000000 ≤ p4 ∧ p4 ≤ 1073741824000000000) :=
  ⟨_, _, _, _, _, _, _, _, rfl, rfl, rfl, rfl, rfl, rfl, rfl, rfl, by unfold tnX; rw [if_pos ⟨hx, hy⟩], by unfold tnY; rw [if_pos ⟨hx, hy⟩], cosv_bounds s, sinv_bounds s,
    mul_bounds (A := 1000000000) (B := 1073741824) (by decide) hx (cosv_bounds s), mul_bounds (A := 1000000000) (B := 1073741824) (by decide) hy (sinv_bounds s), mul_bounds (A := 1000000000) (B := 1073741824) (by decide) hx (sinv_bounds s), mul_bounds (A := 1000000000) (B := 1073741824) (by decide) hy (cosv_bounds s)⟩

set_option maxHeartbeats 1000000 in
theorem sTurn_any (x y s : Int) (w : World) : Calls Try.prog 21 #[.int .i64 x, .int .i64 y, .int .i64 s] w fun e w' => e = .returned (.tuple #[.int .i64 (tnX x y s), .int .i64 (tnY x y s)]) ∧ Below w.heap.size w w' := by
  have i1 := sSmp_any x
  have i2 := sSmp_any y
  by_cases hx : Smp x
  · rw [decide_eq_true hx] at i1
    by_cases hy : Smp y
    · rw [decide_eq_true hy] at i2
      have i3 := sCos_any s
      have i4 := sSin_any s
      obtain ⟨c, n, X, Y, p1, p2, p3, p4, ec, en, e1, e2, e3, e4, eX, eY, tX, tY, bc, bn, b1, b2, b3, b4⟩ := turn_facts x y s hx hy
      have j1 := sRound_any (p1 - p2) 1073741824
      have j2 := sRound_any (p3 + p4) 1073741824
      rw [ec] at i3
      rw [en] at i4
      rw [eX] at j1
      rw [eY] at j2
      rw [tX, tY]
      clear ec en eX eY tX tY bc bn
      go_enter Try.func21, Try.ntmps21
      go_wp2_with (first | (go_at_call 31; (with_reducible refine (i1 _).mono ?_); rintro e w' ⟨rfl, hw⟩; obtain rfl := hw.symm) | (go_at_call 31; (with_reducible refine (i2 _).mono ?_); rintro e w' ⟨rfl, hw⟩; obtain rfl := hw.symm) | (go_at_call 9; (with_reducible refine (i3 _).mono ?_); rintro e w1 ⟨rfl, hb1⟩) | (go_at_call 11; (with_reducible refine (i4 _).mono ?_); rintro e w2 ⟨rfl, hb2⟩) | (go_at_call 32; (with_reducible refine (j1 _).mono ?_); rintro e w' ⟨rfl, hw⟩; obtain rfl := hw.symm) | (go_at_call 32; (with_reducible refine (j2 _).mono ?_); rintro e w' ⟨rfl, hw⟩; obtain rfl := hw.symm))
      go_ret2
      exact ⟨rfl, bstep hb1 hb2⟩
    · rw [decide_eq_false hy] at i2
      have tX : tnX x y s = 0 := by unfold tnX; rw [if_neg (fun h => hy h.2)]
      have tY : tnY x y s = 0 := by unfold tnY; rw [if_neg (fun h => hy h.2)]
      rw [tX, tY]
      clear tX tY hx hy
      go_enter Try.func21, Try.ntmps21
      go_wp2_with (first | (go_at_call 31; (with_reducible refine (i1 _).mono ?_); rintro e w' ⟨rfl, hw⟩; obtain rfl := hw.symm) | (go_at_call 31; (with_reducible refine (i2 _).mono ?_); rintro e w' ⟨rfl, hw⟩; obtain rfl := hw.symm))
      go_ret2
      exact ⟨rfl, Below.refl _ _⟩
  · rw [decide_eq_false hx] at i1
    have tX : tnX x y s = 0 := by unfold tnX; rw [if_neg (fun h => hx h.1)]
    have tY : tnY x y s = 0 := by unfold tnY; rw [if_neg (fun h => hx h.1)]
    rw [tX, tY]
    clear tX tY hx i2
    go_enter Try.func21, Try.ntmps21
    go_wp2_with (first | (go_at_call 31; (with_reducible refine (i1 _).mono ?_); rintro e w' ⟨rfl, hw⟩; obtain rfl := hw.symm))
    go_ret2
    exact ⟨rfl, Below.refl _ _⟩

set_option maxHeartbeats 1000000 in
theorem iTurn_any (x y s : Int) (w : World) : Calls Try.prog 22 #[.int .i64 x, .int .i64 y, .int .i64 s] w fun e w' => e = .returned (.tuple #[.int .i64 (tnX x y s), .int .i64 (tnY x y s)]) ∧ Below w.heap.size w w' := by
  have i1 := iSmp_any x
  have i2 := iSmp_any y
  by_cases hx : Smp x
  · rw [decide_eq_true hx] at i1
    by_cases hy : Smp y
    · rw [decide_eq_true hy] at i2
      have i3 := iCos_any s
      have i4 := iSin_any s
      obtain ⟨c, n, X, Y, p1, p2, p3, p4, ec, en, e1, e2, e3, e4, eX, eY, tX, tY, bc, bn, b1, b2, b3, b4⟩ := turn_facts x y s hx hy
      have j1 := iRound_any (p1 - p2) 1073741824
      have j2 := iRound_any (p3 + p4) 1073741824
      rw [ec] at i3
      rw [en] at i4
      rw [eX] at j1
      rw [eY] at j2
      rw [tX, tY]
      clear ec en eX eY tX tY bc bn
      go_enter Try.func22, Try.ntmps22
      go_wp2_with (first | (go_at_call 33; (with_reducible refine (i1 _).mono ?_); rintro e w' ⟨rfl, hw⟩; obtain rfl := hw.symm) | (go_at_call 33; (with_reducible refine (i2 _).mono ?_); rintro e w' ⟨rfl, hw⟩; obtain rfl := hw.symm) | (go_at_call 10; (with_reducible refine (i3 _).mono ?_); rintro e w1 ⟨rfl, hb1⟩) | (go_at_call 12; (with_reducible refine (i4 _).mono ?_); rintro e w2 ⟨rfl, hb2⟩) | (go_at_call 34; (fail_if_success have := M1); (with_reducible refine (j1 _).mono ?_); rintro e w3 ⟨rfl, hb3⟩; have M1 : Hid True := trivial) | (go_at_call 34; (with_reducible refine (j2 _).mono ?_); rintro e w4 ⟨rfl, hb4⟩))
      go_ret2
      exact ⟨rfl, bstep (bstep (bstep hb1 hb2) hb3) hb4⟩
    · rw [decide_eq_false hy] at i2
      have tX : tnX x y s = 0 := by unfold tnX; rw [if_neg (fun h => hy h.2)]
      have tY : tnY x y s = 0 := by unfold tnY; rw [if_neg (fun h => hy h.2)]
      rw [tX, tY]
      clear tX tY hx hy
      go_enter Try.func22, Try.ntmps22
      go_wp2_with (first | (go_at_call 33; (with_reducible refine (i1 _).mono ?_); rintro e w' ⟨rfl, hw⟩; obtain rfl := hw.symm) | (go_at_call 33; (with_reducible refine (i2 _).mono ?_); rintro e w' ⟨rfl, hw⟩; obtain rfl := hw.symm))
      go_ret2
      exact ⟨rfl, Below.refl _ _⟩
  · rw [decide_eq_false hx] at i1
    have tX : tnX x y s = 0 := by unfold tnX; rw [if_neg (fun h => hx h.1)]
    have tY : tnY x y s = 0 := by unfold tnY; rw [if_neg (fun h => hx h.1)]
    rw [tX, tY]
    clear tX tY hx i2
    go_enter Try.func22, Try.ntmps22
    go_wp2_with (first | (go_at_call 33; (with_reducible refine (i1 _).mono ?_); rintro e w' ⟨rfl, hw⟩; obtain rfl := hw.symm))
    go_ret2
    exact ⟨rfl, Below.refl _ _⟩


theorem walk_turn (x y s : Int) (w : World) : Calls Try.prog 7 #[.int .i64 x, .int .i64 y, .int .i64 s] w fun e w' => e = .returned (.bool true) ∧ Below w.heap.size w w' := by
  have i1 := sTurn_any x y s
  have i2 := iTurn_any x y s
  generalize tnX x y s = X at i1 i2
  generalize tnY x y s = Y at i1 i2
  go_enter Try.func7, Try.ntmps7
  go_wp2_with (first | (go_at_call 21; (with_reducible refine (i1 _).mono ?_); rintro e w1 ⟨rfl, hb1⟩) | (go_at_call 22; (with_reducible refine (i2 _).mono ?_); rintro e w2 ⟨rfl, hb2⟩))
  go_ret
  exact ⟨rfl, bstep hb1 hb2⟩
end Go.Proofs.Ytkfmmabamiommaa
