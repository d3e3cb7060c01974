/- Draws of great numbers; FnRoundDiv. -/
import Derived.Test.YtnabpijackgmnaaD1
import Derived.Test.YtnabpijackgmnaaA2
namespace Go.Proofs.Ytnabpijackgmnaa
open Go.RowKit

set_option maxHeartbeats 2000000 in
theorem dbig_x {w : World} {c : Nat} {a : Option Addr} {len cap : Nat} (h : Cu w c a len cap) :
    Calls Try.prog 30 #[.pointer (some ⟨c, 0, none⟩)] w fun e w' => ∃ x : Int, e = .returned (.int .i64 x) ∧ Cu w' c a len cap ∧ Keep c w w' := by
  have HC : Hid (Cu w c a len cap) := h
  clear h
  have P6 : ∀ W, Cu W c a len cap → Calls Try.prog 41 #[.pointer (some ⟨c, 0, none⟩), .slice (some ⟨W.heap.size, 0, none⟩) 6 6] (W.alloc (.cells #[.int .i64 4000000000000000000, .int .i64 4000000000000000001, .int .i64 (-4000000000000000000), .int .i64 (-4000000000000000001), .int .i64 9223372036854775807, .int .i64 (-9223372036854775808)] 3)) fun e w' => ∃ x : Int, e = .returned (.int .i64 x) ∧ Cu w' c a len cap ∧ Keep c W w' := fun W hW => pick_lit [4000000000000000000, 4000000000000000001, -4000000000000000000, -4000000000000000001, 9223372036854775807, -9223372036854775808] (by decide) (by decide) hW
  go_enter Try.func30, Try.ntmps30
  go_wp2_with (go_at_call 32; refine (below_x HC.out 8).mono ?_; rintro e w1 ⟨i0, hi0, _, hi1, rfl, hc, hk⟩; have hi2 := hi1 (by omega); have HC1 : Hid (Cu w1 c a len cap) := hc; have K1 : Hid (Keep c w w1) := hk; clear hc hk hi1)
  obtain ⟨j, rfl⟩ := Int.eq_ofNat_of_zero_le hi0
  go_loopw [3, 4] (fun x i wr => ∃ (q : Nat) (X : Int), i = .int .i64 q ∧ x = .int .i64 X ∧ q ≤ 8 ∧ Hid (Cu wr c a len cap ∧ Keep c w wr)) (fun _ i _ => (intOf i).toNat)
  case atStart => exact ⟨j, 0, rfl, rfl, by omega, HC1.out, K1.out⟩
  case round =>
    obtain ⟨q, X, rfl, rfl, hq, hcur⟩ := hrel
    by_cases h1 : 0 < q
    · go_wp2_with (go_at_call 60; refine (byte_x hcur.out.1).mono ?_; rintro e w2 ⟨x2, hx0, hx1, rfl, hc, hk⟩; have HC2 : Hid (Cu w2 c a len cap) := hc; have K2 : Hid (Keep c w w2) := hcur.out.2.trans hk; clear hc hk)
      go_roundw
      case rel => exact ⟨q - 1, _, by congr 1; omega, rfl, by omega, HC2.out, K2.out⟩
      case measure => simp [intOf]; omega
    · obtain rfl : q = 0 := by omega
      have HC3 : Hid (Cu wr c a len cap) := hcur.out.1
      have K3 : Hid (Keep c w wr) := hcur.out.2
      clear hcur
      go_wp2_with (first
        | (go_at_call 31; (fail_if_success have := M4); refine (once_x HC3.out 2).mono ?_; rintro e w4 ⟨x4, rfl, hc, hk⟩; have M4 : Hid True := trivial; have HC4 : Hid (Cu w4 c a len cap) := hc; have K4 : Hid (Keep c w w4) := K3.out.trans hk; clear hc hk)
        | (go_at_call 31; (fail_if_success have := M5); refine (once_x HC4.out 15).mono ?_; rintro e w5 ⟨x5, rfl, hc, hk⟩; have M5 : Hid True := trivial; have HC5 : Hid (Cu w5 c a len cap) := hc; have K5 : Hid (Keep c w w5) := K4.out.trans hk; clear hc hk)
        | (go_at_call 41; refine (P6 _ HC5.out).mono ?_; rintro e w6 ⟨x6, rfl, hc, hk⟩; have HC6 : Hid (Cu w6 c a len cap) := hc; have K6 : Hid (Keep c w w6) := K5.out.trans hk; clear hc hk))
      all_goals
        go_ret
        first | exact ⟨_, rfl, HC6.out, K6.out⟩ | exact ⟨_, rfl, HC5.out, K5.out⟩

set_option maxHeartbeats 2000000 in
theorem dround_x {w : World} {a : Option Addr} {len cap : Nat} (hr : Row w a len) (hl : len ≤ 1048576) :
    Calls Try.prog 9 #[.slice a len cap] w fun e w' => ∃ x y : Int, e = .returned (.tuple #[.int .i64 x, .int .i64 y]) ∧ Below w.heap.size w w' := by
  have HR : Hid (Row w a len) := hr
  clear hr
  obtain ⟨c, hcd⟩ : ∃ c, w.heap.size = c := ⟨_, rfl⟩
  have HN : Hid (Calls Try.prog 29 #[.slice a len cap] w fun e w' => e = .returned (.pointer (some ⟨c, 0, none⟩)) ∧ Cu w' c a len cap ∧ Below w.heap.size w w') := by have := new_x (cap := cap) HR.out (by omega); rw [← hcd]; exact this
  go_enter Try.func9, Try.ntmps9
  go_wp2_with (first
    | (go_at_call 29; refine HN.out.mono ?_; rintro e w1 ⟨rfl, hc, hb⟩; have HC1 : Hid (Cu w1 c a len cap) := hc; have B1 : Hid (Below w.heap.size w w1) := hb; clear hc hb)
    | (go_at_call 30; (fail_if_success have := M2); refine (dbig_x HC1.out).mono ?_; rintro e w2 ⟨x2, rfl, hc, hk⟩; have M2 : Hid True := trivial; have HC2 : Hid (Cu w2 c a len cap) := hc; have K2 : Hid (Keep c w1 w2) := hk; clear hc hk)
    | (go_at_call 30; (fail_if_success have := M3); refine (dbig_x HC2.out).mono ?_; rintro e w3 ⟨x3, rfl, hc, hk⟩; have M3 : Hid True := trivial; have HC3 : Hid (Cu w3 c a len cap) := hc; have K3 : Hid (Keep c w1 w3) := K2.out.trans hk; clear hc hk)
    | (go_at_call 31; (fail_if_success have := M4); refine (once_x HC3.out 2).mono ?_; rintro e w4 ⟨x4, rfl, hc, hk⟩; have M4 : Hid True := trivial; have HC5 : Hid (Cu w4 c a len cap) := hc; have K5 : Hid (Keep c w1 w4) := K3.out.trans hk; clear hc hk)
    | (go_at_call 32; (fail_if_success have := M6); refine (below_x HC5.out 12).mono ?_; rintro e w5 ⟨x5, _, _, _, rfl, hc, hk⟩; have HC5 : Hid (Cu w5 c a len cap) := hc; have K5 : Hid (Keep c w1 w5) := K5.out.trans hk; clear hc hk)
    | (go_at_call 31; refine (once_x HC5.out 2).mono ?_; rintro e w6 ⟨x6, rfl, hc, hk⟩; have M6 : Hid True := trivial; have HC7 : Hid (Cu w6 c a len cap) := hc; have K7 : Hid (Keep c w1 w6) := K5.out.trans hk; clear hc hk)
    | (go_at_call 32; refine (below_x HC7.out 200).mono ?_; rintro e w7 ⟨x7, _, _, _, rfl, hc, hk⟩; have HC7 : Hid (Cu w7 c a len cap) := hc; have K7 : Hid (Keep c w1 w7) := K7.out.trans hk; clear hc hk))
  all_goals
    go_ret2
    exact ⟨_, _, rfl, Below.keep B1.out K7.out (Nat.le_of_eq hcd)⟩

theorem rdV_m32 : rdV (-3) 2 = -1 := by decide +kernel
theorem rdV_32 : rdV 3 2 = 2 := by decide +kernel

set_option maxHeartbeats 2000000 in
theorem walk_rounddiv {w : World} {a : Option Addr} {n cap : Nat} (hr : Row w a n) (hn : n ≤ 9223372036854775807) : Calls Try.prog 3 #[.slice a n cap] w fun e w' => e = .returned (.bool true) ∧ Below w.heap.size w w' := by
  have hz := fun W => big_x (w := W) a n cap hn
  by_cases h : n ≤ 1048576
  · rw [decide_eq_false (show ¬ (1048576 : Int) < (n : Int) by omega)] at hz
    have hd := dround_x (cap := cap) hr h
    have i3 := iRound_any (-3) 2
    have i4 := iRound_any 3 2
    rw [rdV_m32] at i3
    rw [rdV_32] at i4
    clear hr
    go_enter Try.func3, Try.ntmps3
    go_upto_region 4 with (first | (go_at_call 8; (with_reducible refine (hz _).mono ?_); rintro e w' ⟨rfl, hw⟩; obtain rfl := hw.symm) | (go_at_call 9; refine hd.mono ?_; rintro e w1 ⟨x, y, rfl, hb1⟩; have B1 : Hid (Below w.heap.size w w1) := hb1; clear hb1))
    have i1 := iRound_any x y
    have i2 := sRound_any x y
    by_cases hy : 1 ≤ y ∧ y ≤ 4000000000000000000
    · by_cases hx : -4000000000000000000 ≤ x ∧ x ≤ 4000000000000000000
      · have h0 := ediv_bounds hy.1 hx.1 hx.2 (by decide)
        have hr := sub_emod x y
        have r0 := Int.emod_nonneg x (show y ≠ 0 by omega)
        have r1 := Int.emod_lt_of_pos x (show 0 < y by omega)
        by_cases hu : y - x % y ≤ x % y
        · have e1 := rdV_up hy hx hu
          have e2 : (x / y + 1) * y = x / y * y + y := by grind
          rw [← e1] at i1 i2
          have hp : -9000000000000000000 ≤ (x / y + 1) * y ∧ (x / y + 1) * y ≤ 9000000000000000000 := by omega
          have hr2 : x - (x / y + 1) * y = x % y - y := by omega
          clear e1 e2 hr
          generalize x / y + 1 = q at *
          generalize x % y = r at *
          go_wp2_with (first | (go_at_call 10; (fail_if_success have := M2); (with_reducible refine (i1 _).mono ?_); rintro e w2 ⟨rfl, hb2⟩; have M2 : Hid True := trivial; have B2 : Hid (Below w.heap.size w w2) := bstep B1.out hb2; clear hb2) | (go_at_call 11; (with_reducible refine (i2 _).mono ?_); rintro e w' ⟨rfl, hw⟩; obtain rfl := hw.symm) | (go_at_call 10; (with_reducible refine (i4 _).mono ?_); rintro e w4 ⟨rfl, hb4⟩))
          go_ret
          exact ⟨rfl, bstep B2.out hb4⟩
        · have e1 := rdV_down hy hx hu
          rw [← e1] at i1 i2
          have hp : -9000000000000000000 ≤ x / y * y ∧ x / y * y ≤ 9000000000000000000 := by omega
          clear e1
          generalize x / y = q at *
          generalize x % y = r at *
          go_wp2_with (first | (go_at_call 10; (fail_if_success have := M2); (with_reducible refine (i1 _).mono ?_); rintro e w2 ⟨rfl, hb2⟩; have M2 : Hid True := trivial; have B2 : Hid (Below w.heap.size w w2) := bstep B1.out hb2; clear hb2) | (go_at_call 11; (with_reducible refine (i2 _).mono ?_); rintro e w' ⟨rfl, hw⟩; obtain rfl := hw.symm) | (go_at_call 10; (with_reducible refine (i4 _).mono ?_); rintro e w4 ⟨rfl, hb4⟩))
          go_ret
          exact ⟨rfl, bstep B2.out hb4⟩
      · have e1 : 0 = rdV x y := rdV_no (fun h => hx h.2)
        rw [← e1] at i1 i2
        have hx' : x < -4000000000000000000 ∨ 4000000000000000000 < x := by omega
        clear e1 hx
        rcases hx' with hx | hx
        · go_wp2_with (first | (go_at_call 10; (fail_if_success have := M2); (with_reducible refine (i1 _).mono ?_); rintro e w2 ⟨rfl, hb2⟩; have M2 : Hid True := trivial; have B2 : Hid (Below w.heap.size w w2) := bstep B1.out hb2; clear hb2) | (go_at_call 11; (with_reducible refine (i2 _).mono ?_); rintro e w' ⟨rfl, hw⟩; obtain rfl := hw.symm) | (go_at_call 10; (with_reducible refine (i3 _).mono ?_); rintro e w4 ⟨rfl, hb4⟩))
          go_ret
          exact ⟨rfl, bstep B2.out hb4⟩
        · go_wp2_with (first | (go_at_call 10; (fail_if_success have := M2); (with_reducible refine (i1 _).mono ?_); rintro e w2 ⟨rfl, hb2⟩; have M2 : Hid True := trivial; have B2 : Hid (Below w.heap.size w w2) := bstep B1.out hb2; clear hb2) | (go_at_call 11; (with_reducible refine (i2 _).mono ?_); rintro e w' ⟨rfl, hw⟩; obtain rfl := hw.symm) | (go_at_call 10; (with_reducible refine (i3 _).mono ?_); rintro e w4 ⟨rfl, hb4⟩))
          go_ret
          exact ⟨rfl, bstep B2.out hb4⟩
    · have e1 : 0 = rdV x y := rdV_no (fun h => hy h.1)
      rw [← e1] at i1 i2
      have hy' : y < 1 ∨ 4000000000000000000 < y := by omega
      clear e1 hy
      rcases hy' with hy | hy
      · go_wp2_with (first | (go_at_call 10; (fail_if_success have := M2); (with_reducible refine (i1 _).mono ?_); rintro e w2 ⟨rfl, hb2⟩; have M2 : Hid True := trivial; have B2 : Hid (Below w.heap.size w w2) := bstep B1.out hb2; clear hb2) | (go_at_call 11; (with_reducible refine (i2 _).mono ?_); rintro e w' ⟨rfl, hw⟩; obtain rfl := hw.symm) | (go_at_call 10; (with_reducible refine (i3 _).mono ?_); rintro e w4 ⟨rfl, hb4⟩))
        go_ret
        exact ⟨rfl, bstep B2.out hb4⟩
      · go_wp2_with (first | (go_at_call 10; (fail_if_success have := M2); (with_reducible refine (i1 _).mono ?_); rintro e w2 ⟨rfl, hb2⟩; have M2 : Hid True := trivial; have B2 : Hid (Below w.heap.size w w2) := bstep B1.out hb2; clear hb2) | (go_at_call 11; (with_reducible refine (i2 _).mono ?_); rintro e w' ⟨rfl, hw⟩; obtain rfl := hw.symm) | (go_at_call 10; (with_reducible refine (i3 _).mono ?_); rintro e w4 ⟨rfl, hb4⟩))
        go_ret
        exact ⟨rfl, bstep B2.out hb4⟩
  · rw [decide_eq_true (show (1048576 : Int) < (n : Int) by omega)] at hz
    go_enter Try.func3, Try.ntmps3
    go_wp2_with (go_at_call 8; (with_reducible refine (hz _).mono ?_); rintro e w' ⟨rfl, hw⟩; obtain rfl := hw.symm)
    go_ret
    exact ⟨rfl, Below.refl _ _⟩
end Go.Proofs.Ytnabpijackgmnaa
