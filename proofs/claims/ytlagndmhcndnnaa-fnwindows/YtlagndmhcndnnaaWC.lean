/- FnCircle. -/
import Derived.Test.YtlagndmhcndnnaaW3
import Derived.Test.YtlagndmhcndnnaaD1
namespace Go.Proofs.Ytlagndmhcndnnaa
open Go.RowKit

set_option maxHeartbeats 1000000 in
theorem bt_any {w : World} {a : Option Addr} {n cap : Nat} (hr : Row w a n) (hn : n ≤ 1048576) (i : Nat) (hi : i ≤ 100) : Calls Try.prog 6 #[.slice a n cap, .int .i64 i] w fun e w' => ∃ v : Nat, e = .returned (.int .i64 v) ∧ v < 256 ∧ w' = w := by
  by_cases h : i < n
  · obtain ⟨b, off, z, rfl, hlt, hc, h0, h1⟩ := hr i h
    clear hr
    obtain ⟨k, rfl⟩ : ∃ k : Nat, z = k := ⟨z.toNat, by omega⟩
    go_enter Try.func6, Try.ntmps6
    go_wp2
    go_ret
    exact ⟨k, rfl, by omega, rfl⟩
  · have hm : ((i : Int) * 7 + (n : Int)).tmod 256 = (((i * 7 + n) % 256 : Nat) : Int) := by
      rw [Int.tmod_eq_emod_of_nonneg (by omega)]
      omega
    clear hr
    go_enter Try.func6, Try.ntmps6
    go_wp2
    go_ret
    exact ⟨(i * 7 + n) % 256, by first | rfl | (rw [← hm]; rfl) | (simp only [hm]; rfl), by omega, rfl⟩

theorem abs_any (x : Int) (hx : -1000000000000 ≤ x ∧ x ≤ 1000000000000) (w : World) : Calls Try.prog 10 #[.int .i64 x] w fun e w' => e = .returned (.int .i64 (if x < 0 then -x else x)) ∧ w' = w := by
  by_cases h : x < 0
  · rw [if_pos h]
    go_enter Try.func10, Try.ntmps10
    go_wp2
    go_ret
    exact ⟨rfl, rfl⟩
  · rw [if_neg h]
    go_enter Try.func10, Try.ntmps10
    go_wp2
    go_ret
    exact ⟨rfl, rfl⟩

theorem cos_neg (s : Int) : cosv (-s) = cosv s := by
  have h : ∀ r : Fin 256, cosv (-(r.val : Int)) = cosv (r.val : Int) := by decide +kernel
  have h1 := h ⟨(s % 256).toNat, by omega⟩
  rw [cosv_congr (s := -s) (t := -((s % 256).toNat : Int)) (by omega), cosv_congr (s := s) (t := ((s % 256).toNat : Int)) (by omega)]
  exact h1
theorem cos_half (s : Int) : cosv (s + 128) = -cosv s := by
  have h : ∀ r : Fin 256, cosv ((r.val : Int) + 128) = -cosv (r.val : Int) := by decide +kernel
  have h1 := h ⟨(s % 256).toNat, by omega⟩
  rw [cosv_congr (s := s + 128) (t := ((s % 256).toNat : Int) + 128) (by omega), cosv_congr (s := s) (t := ((s % 256).toNat : Int)) (by omega)]
  exact h1
theorem cos_whole (s : Int) : cosv (s + 256) = cosv s := cosv_congr (by omega)
theorem sin_half (s : Int) : sinv (s + 128) = -sinv s := by
  unfold sinv
  rw [← cos_half, show s + 128 - 64 = s - 64 + 128 by omega]
theorem sin_neg (s : Int) : sinv (-s) = -sinv s := by
  unfold sinv
  rw [← cos_half, ← cos_neg (s - 64 + 128)]
  exact cosv_congr (by omega)

def csum : Nat → Int
  | 0 => 0
  | k + 1 => csum k + cosv (k : Int)
def ssum : Nat → Int
  | 0 => 0
  | k + 1 => ssum k + sinv (k : Int)

theorem csum_end : csum 256 = 0 := by decide +kernel
theorem ssum_end : ssum 256 = 0 := by decide +kernel
theorem cos_0 : cosv 0 = 1073741824 := by decide +kernel

theorem csum_bounds : ∀ k : Nat, -1073741824 * (k : Int) ≤ csum k ∧ csum k ≤ 1073741824 * (k : Int)
  | 0 => by simp [csum]
  | k + 1 => by
    have h1 := csum_bounds k
    have h2 := cosv_bounds (k : Int)
    unfold csum
    omega
theorem ssum_bounds : ∀ k : Nat, -1073741824 * (k : Int) ≤ ssum k ∧ ssum k ≤ 1073741824 * (k : Int)
  | 0 => by simp [ssum]
  | k + 1 => by
    have h1 := ssum_bounds k
    have h2 := sinv_bounds (k : Int)
    unfold ssum
    omega

set_option maxRecDepth 50000 in
set_option maxHeartbeats 4000000 in
theorem walk_circle {w : World} {a : Option Addr} {n cap : Nat} (hr : Row w a n) (hn : n ≤ 9223372036854775807) : Calls Try.prog 3 #[.slice a n cap] w fun e w' => e = .returned (.bool true) ∧ Below w.heap.size w w' := by
  have hbig := fun W => big_x (w := W) a n cap hn
  by_cases hb : 1048576 < (n : Int)
  · rw [decide_eq_true hb] at hbig
    clear hr hb
    go_enter Try.func3, Try.ntmps3
    go_wp2_with (go_at_call 5; refine (hbig _).mono ?_; rintro e w' ⟨rfl, hw⟩; obtain rfl := hw.symm)
    go_ret
    exact ⟨rfl, Below.refl _ _⟩
  rw [decide_eq_false hb] at hbig
  have a0 := bt_any (cap := cap) hr (by omega) 0 (by omega)
  have a1 := bt_any (cap := cap) hr (by omega) 1 (by omega)
  clear hr hb
  go_enter Try.func3, Try.ntmps3
  go_upto_region 4 with (first | (go_at_call 5; refine (hbig _).mono ?_; rintro e w' ⟨rfl, hw⟩; obtain rfl := hw.symm) | (go_at_call 6; (fail_if_success have := M0); refine (a0).mono ?_; rintro e w' ⟨v0, rfl, hv0, hw⟩; obtain rfl := hw.symm; have M0 : Hid True := trivial) | (go_at_call 6; have Z := M0; refine (a1).mono ?_; rintro e w' ⟨v1, rfl, hv1, hw⟩; obtain rfl := hw.symm))
  obtain ⟨s, hs⟩ : ∃ s : Int, s = (v0 : Int) * 4 - 512 + v1 := ⟨_, rfl⟩
  have hsb : -512 ≤ s ∧ s ≤ 763 := by omega
  rw [← hs]
  clear hs a0 a1 hbig
  clear M0
  have c1 := iCos_any s
  have c2 := iSin_any s
  have c3 := sCos_any s
  have c4 := iCos_any (-s)
  have c5 := iSin_any (-s)
  have c6 := iCos_any (s + 256)
  have c7 := iCos_any (s + 128)
  have c8 := iSin_any (s + 128)
  have c9 := iCos_any 0
  rw [cos_neg] at c4
  rw [sin_neg] at c5
  rw [cos_whole] at c6
  rw [cos_half] at c7
  rw [sin_half] at c8
  rw [cos_0] at c9
  have bX := cosv_bounds s
  have bY := sinv_bounds s
  generalize cosv s = X at *
  generalize sinv s = Y at *
  obtain ⟨A, hA, hA1⟩ : ∃ A : Int, (∀ W, Calls Try.prog 10 #[.int .i64 X] W fun e w' => e = .returned (.int .i64 A) ∧ w' = W) ∧ A ≤ 1073741824 := ⟨_, fun W => abs_any X (by omega) W, by split <;> omega⟩
  obtain ⟨A2, hA2, hA3⟩ : ∃ A : Int, (∀ W, Calls Try.prog 10 #[.int .i64 Y] W fun e w' => e = .returned (.int .i64 A) ∧ w' = W) ∧ A ≤ 1073741824 := ⟨_, fun W => abs_any Y (by omega) W, by split <;> omega⟩
  go_wp2_with (first
    | (go_at_call 7; (fail_if_success have := M1); (with_reducible refine (c1 _).mono ?_); rintro e w1 ⟨rfl, hb1⟩; have M1 : Hid True := trivial; have B1 : Hid (Below w.heap.size w w1) := hb1; clear hb1)
    | (go_at_call 8; have Z := M1; (fail_if_success have := M2); (with_reducible refine (c2 _).mono ?_); rintro e w2 ⟨rfl, hb2⟩; have M2 : Hid True := trivial; have B2 : Hid (Below w.heap.size w w2) := bstep B1.out hb2; clear hb2)
    | (go_at_call 9; have Z := M2; (fail_if_success have := M3); (with_reducible refine (c3 _).mono ?_); rintro e w3 ⟨rfl, hb3⟩; have M3 : Hid True := trivial; have B3 : Hid (Below w.heap.size w w3) := bstep B2.out hb3; clear hb3)
    | (go_at_call 7; have Z := M3; (fail_if_success have := M4); (with_reducible refine (c4 _).mono ?_); rintro e w4 ⟨rfl, hb4⟩; have M4 : Hid True := trivial; have B4 : Hid (Below w.heap.size w w4) := bstep B3.out hb4; clear hb4)
    | (go_at_call 8; have Z := M4; (fail_if_success have := M5); (with_reducible refine (c5 _).mono ?_); rintro e w5 ⟨rfl, hb5⟩; have M5 : Hid True := trivial; have B5 : Hid (Below w.heap.size w w5) := bstep B4.out hb5; clear hb5)
    | (go_at_call 7; have Z := M5; (fail_if_success have := M6); (with_reducible refine (c6 _).mono ?_); rintro e w6 ⟨rfl, hb6⟩; have M6 : Hid True := trivial; have B6 : Hid (Below w.heap.size w w6) := bstep B5.out hb6; clear hb6)
    | (go_at_call 7; have Z := M6; (fail_if_success have := M7); (with_reducible refine (c7 _).mono ?_); rintro e w7 ⟨rfl, hb7⟩; have M7 : Hid True := trivial; have B7 : Hid (Below w.heap.size w w7) := bstep B6.out hb7; clear hb7)
    | (go_at_call 8; have Z := M7; (fail_if_success have := M8); (with_reducible refine (c8 _).mono ?_); rintro e w8 ⟨rfl, hb8⟩; have M8 : Hid True := trivial; have B8 : Hid (Below w.heap.size w w8) := bstep B7.out hb8; clear hb8))
  go_loopw [6, 7, 8] (fun p q i wr => ∃ k : Nat, i = .int .i64 k ∧ p = .int .i64 (csum k) ∧ q = .int .i64 (ssum k) ∧ k ≤ 256 ∧ Hid (Below w.heap.size w wr)) (fun _ _ i _ => 256 - (intOf i).toNat)
  case atStart => exact ⟨0, rfl, rfl, rfl, by omega, B8.out⟩
  case round =>
    obtain ⟨k, rfl, rfl, rfl, hk, hrel⟩ := hrel
    by_cases h1 : k < 256
    · have d1 := iCos_any (k : Int)
      have d2 := iSin_any (k : Int)
      have b1 := cosv_bounds (k : Int)
      have b2 := sinv_bounds (k : Int)
      have b3 := csum_bounds k
      have b4 := ssum_bounds k
      have E1 : Hid (csum (k + 1) = csum k + cosv (k : Int)) := rfl
      have E2 : Hid (ssum (k + 1) = ssum k + sinv (k : Int)) := rfl
      generalize cosv (k : Int) = C at *
      generalize sinv (k : Int) = S at *
      go_wp2_with (first | (go_at_call 7; (with_reducible refine (d1 _).mono ?_); rintro e y1 ⟨rfl, hy1⟩; have D1 : Hid (Below w.heap.size w y1) := bstep hrel.out hy1; clear hy1) | (go_at_call 8; (with_reducible refine (d2 _).mono ?_); rintro e y2 ⟨rfl, hy2⟩; have D2 : Hid (Below w.heap.size w y2) := bstep D1.out hy2; clear hy2))
      go_roundw
      case rel => exact ⟨k + 1, by go_num, by rw [E1.out], by rw [E2.out], by omega, D2.out⟩
      case measure => simp [intOf]; omega
    · obtain rfl : k = 256 := by omega
      have e1 := csum_end
      have e2 := ssum_end
      rw [e1, e2]
      clear e1 e2
      go_wp2_with (first | (go_at_call 7; (with_reducible refine (c9 _).mono ?_); rintro e y1 ⟨rfl, hy1⟩; have D1 : Hid (Below w.heap.size w y1) := bstep hrel.out hy1; clear hy1) | (go_at_call 10; (with_reducible refine (hA _).mono ?_); rintro e w' ⟨rfl, hw⟩; obtain rfl := hw.symm) | (go_at_call 10; (with_reducible refine (hA2 _).mono ?_); rintro e w' ⟨rfl, hw⟩; obtain rfl := hw.symm))
      go_ret
      exact ⟨rfl, D1.out⟩
end Go.Proofs.Ytlagndmhcndnnaa
