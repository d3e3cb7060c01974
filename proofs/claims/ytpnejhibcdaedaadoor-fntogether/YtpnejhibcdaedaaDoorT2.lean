/- FnTogether: the law. -/
import Derived.Test.YtpnejhibcdaedaaDoorT1
import Derived.Deep.Cut
namespace Go.Proofs.YtpnejhibcdaedaaDoor
open Go.RowKit

theorem tmod_bounds (x : Int) {n : Int} (hn : 0 < n) : -n < x.tmod n ∧ x.tmod n < n := by
  have h := Int.natAbs_tmod x n
  have h2 := Nat.mod_lt x.natAbs (show 0 < n.natAbs by omega)
  omega

set_option maxHeartbeats 4000000 in
theorem walk_together {w : World} {a : Option Addr} {n cap : Nat} (hs : Prs w) (hr : Row w a n) (hn : n ≤ 9223372036854775807) : Calls Tryd.prog 4 #[.slice a n cap] w fun e w' => e = .returned (.bool true) ∧ Below w.heap.size w w' := by
  have hz := fun W => big_x (w := W) a n cap hn
  by_cases h : n ≤ 1048576
  · rw [decide_eq_false (show ¬ (1048576 : Int) < (n : Int) by omega)] at hz
    have hd := dround_x (cap := cap) hr h
    have t5 : Hid (∀ W, Below w.heap.size w W → Calls Tryd.prog 13 #[.int .i64 5, .int .i64 5, .int .i64 5] W fun e w' => e = .returned (.int .i64 5) ∧ w' = W) := fun W hW => tog_any (X := 5) (by omega) (hs.below hW)
    have tX : Hid (∀ X W, -4000000000000000000 ≤ X ∧ X ≤ 4000000000000000000 → Below w.heap.size w W → Calls Tryd.prog 13 #[.int .i64 (X % 998244353), .int .i64 (X % 167772161), .int .i64 (X % 469762049)] W fun e w' => e = .returned (.int .i64 X) ∧ w' = W) := fun X W hX hW => tog_any hX (hs.below hW)
    clear hr hs
    go_enter Tryd.func4, Tryd.ntmps4
    go_upto_region 4 with (first | (go_at_call 5; (with_reducible refine (hz _).mono ?_); rintro e w' ⟨rfl, hw⟩; obtain rfl := hw.symm) | (go_at_call 12; refine hd.mono ?_; rintro e w1 ⟨x, y, rfl, hb1⟩; have B1 : Hid (Below w.heap.size w w1) := hb1; clear hb1))
    by_cases hx1 : 4000000000000000000 < x
    · have j1 := tX.out (-4000000000000000000) w1 (by omega) B1.out
      simp only [show (-4000000000000000000 : Int) % 998244353 = 130449467 by decide, show (-4000000000000000000 : Int) % 167772161 = 159768809 by decide, show (-4000000000000000000 : Int) % 469762049 = 234344564 by decide] at j1
      have j2 := t5.out w1 B1.out
      go_wp2_with (first | (go_at_call 13; (with_reducible refine (j1).mono ?_); rintro e w' ⟨rfl, hw⟩; obtain rfl := hw.symm) | (go_at_call 13; (with_reducible refine (j2).mono ?_); rintro e w' ⟨rfl, hw⟩; obtain rfl := hw.symm))
      go_ret
      exact ⟨rfl, B1.out⟩
    · by_cases hx2 : x < -4000000000000000000
      · have hx3 : decide (4000000000000000000 < x) = false := by simp; omega
        have j1 := tX.out (-4000000000000000000) w1 (by omega) B1.out
        simp only [show (-4000000000000000000 : Int) % 998244353 = 130449467 by decide, show (-4000000000000000000 : Int) % 167772161 = 159768809 by decide, show (-4000000000000000000 : Int) % 469762049 = 234344564 by decide] at j1
        have j2 := t5.out w1 B1.out
        go_wp2_with (first | (go_at_call 13; (with_reducible refine (j1).mono ?_); rintro e w' ⟨rfl, hw⟩; obtain rfl := hw.symm) | (go_at_call 13; (with_reducible refine (j2).mono ?_); rintro e w' ⟨rfl, hw⟩; obtain rfl := hw.symm))
        go_ret
        exact ⟨rfl, B1.out⟩
      · have hx3 : decide (4000000000000000000 < x) = false := by simp; omega
        have hx4 : decide (x < -4000000000000000000) = false := by simp; omega
        have j1 := tX.out x w1 (by omega) B1.out
        have j2 := t5.out w1 B1.out
        have dA := Int.mul_tdiv_add_tmod x 998244353
        have dB := Int.mul_tdiv_add_tmod x 167772161
        have dC := Int.mul_tdiv_add_tmod x 469762049
        have uA := tmod_bounds x (n := 998244353) (by omega)
        have uB := tmod_bounds x (n := 167772161) (by omega)
        have uC := tmod_bounds x (n := 469762049) (by omega)
        obtain ⟨rA, hA⟩ : ∃ r, x.tmod 998244353 = r := ⟨_, rfl⟩
        obtain ⟨mA, kA⟩ : ∃ m, x % 998244353 = m := ⟨_, rfl⟩
        rw [hA] at dA uA
        rw [kA] at j1
        have eA : (rA + 998244353) % 998244353 = mA := by omega
        have fA : rA % 998244353 = mA := by omega
        obtain ⟨rB, hB⟩ : ∃ r, x.tmod 167772161 = r := ⟨_, rfl⟩
        obtain ⟨mB, kB⟩ : ∃ m, x % 167772161 = m := ⟨_, rfl⟩
        rw [hB] at dB uB
        rw [kB] at j1
        have eB : (rB + 167772161) % 167772161 = mB := by omega
        have fB : rB % 167772161 = mB := by omega
        obtain ⟨rC, hC⟩ : ∃ r, x.tmod 469762049 = r := ⟨_, rfl⟩
        obtain ⟨mC, kC⟩ : ∃ m, x % 469762049 = m := ⟨_, rfl⟩
        rw [hC] at dC uC
        rw [kC] at j1
        have eC : (rC + 469762049) % 469762049 = mC := by omega
        have fC : rC % 469762049 = mC := by omega
        clear kA kB kC dA dB dC
        go_wp2_with (first | (go_at_call 13; (with_reducible refine (j1).mono ?_); rintro e w' ⟨rfl, hw⟩; obtain rfl := hw.symm) | (go_at_call 13; (with_reducible refine (j2).mono ?_); rintro e w' ⟨rfl, hw⟩; obtain rfl := hw.symm))
        go_ret
        exact ⟨rfl, B1.out⟩
  · rw [decide_eq_true (show (1048576 : Int) < (n : Int) by omega)] at hz
    clear hr hs
    go_enter Tryd.func4, Tryd.ntmps4
    go_wp2_with (go_at_call 5; (with_reducible refine (hz _).mono ?_); rintro e w' ⟨rfl, hw⟩; obtain rfl := hw.symm)
    go_ret
    exact ⟨rfl, Below.refl _ _⟩
end Go.Proofs.YtpnejhibcdaedaaDoor
