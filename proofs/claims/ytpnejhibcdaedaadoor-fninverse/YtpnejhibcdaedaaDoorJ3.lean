/- FnInverse: the law. -/
import Derived.Test.YtpnejhibcdaedaaDoorD3
namespace Go.Proofs.YtpnejhibcdaedaaDoor
open Go.RowKit

set_option maxHeartbeats 1000000 in
theorem at_x {w : World} {a : Option Addr} {n cap : Nat} (hr : Row w a n) (hn : n ≤ 1048576) : Calls Tryd.prog 9 #[.slice a n cap, .int .i64 3] w fun e w' => ∃ m : Int, (0 ≤ m ∧ m ≤ 255) ∧ e = .returned (.int .i64 m) ∧ w' = w := by
  by_cases h : 3 < n
  · obtain ⟨b, off, z, rfl, hb, hc, hz0, hz1⟩ := hr 3 h
    clear hr hb
    go_enter Tryd.func9, Tryd.ntmps9
    go_wp2
    go_ret
    exact ⟨z, by omega, rfl, rfl⟩
  · clear hr
    go_enter Tryd.func9, Tryd.ntmps9
    go_wp2
    go_ret
    exact ⟨(21 + (n : Int)) % 256, by omega, rfl, rfl⟩

theorem Prs.dn {w : World} (h : Prs w) (n : Nat) : Prs (w.drewN n) := ⟨h.c0, h.c1, h.c2⟩

theorem unit_one : pwV (unV 256 469762049) 256 469762049 = 1 := by
  have hp : Prm 469762049 := .inr (.inr rfl)
  have hb := unV_bounds (n := 256) hp
  rw [← pwV_yes hp (by omega) (by omega)]
  have h := (unit_full (n := 256) hp (by decide)).mod_eq
  exact h

theorem unit_neg : pwV (unV 256 469762049) 128 469762049 = 469762048 := by
  have hp : Prm 469762049 := .inr (.inr rfl)
  have hb := unV_bounds (n := 256) hp
  rw [← pwV_yes hp (by omega) (by omega)]
  have h := (unit_half (n := 256) hp (by decide) (by decide)).mod_eq
  exact h

theorem pw_sum {a n m p : Int} (hp : Prm p) (ha : 0 ≤ a ∧ a ≤ p - 1) (hn : 0 ≤ n) (hm : 0 ≤ m) (hs : n + m ≤ 4000000000000000000) : pwV a n p * pwV a m p % p = pwV a (n + m) p := by
  rw [← pwV_yes hp ha (by omega), ← pwV_yes hp ha (by omega), ← pwV_yes hp ha (by omega), ← Int.mul_emod, ← Int.pow_add]
  congr 2
  omega

theorem pw_bounds {a n p : Int} (hp : Prm p) : 0 ≤ pwV a n p ∧ pwV a n p < p := by
  have := hp.bounds
  unfold pwV
  split
  · exact pwm_bounds hp _
  · omega

theorem inv_pos {a p : Int} (hp : Prm p) (ha : 1 ≤ a ∧ a ≤ p - 1) : 0 < ivV a p ∧ ivV a p * a % p = 1 := by
  have hb := hp.bounds
  have h1 := inv_mul hp ha
  have h2 := h1.mod_eq
  rw [Int.emod_eq_of_lt (show (0 : Int) ≤ 1 by omega) (by omega), Int.mul_comm] at h2
  have h3 := (ivV_bounds (a := a) hp).1
  refine ⟨?_, h2⟩
  rcases Int.lt_or_eq_of_le h3 with h | h
  · exact h
  · rw [← h, Int.zero_mul, Int.zero_emod] at h2
    omega

set_option maxHeartbeats 8000000 in
theorem walk_inverse {w : World} {a : Option Addr} {n cap : Nat} (hs : Prs w) (hr : Row w a n) (hn : n ≤ 9223372036854775807) : Calls Tryd.prog 3 #[.slice a n cap] w fun e w' => e = .returned (.bool true) ∧ Below w.heap.size w w' := by
  have hz := fun W => big_x (w := W) a n cap hn
  by_cases h : n ≤ 1048576
  · rw [decide_eq_false (show ¬ (1048576 : Int) < (n : Int) by omega)] at hz
    have hd := dpow_x (cap := cap) hr h
    have HS : Hid (Prs w) := hs
    have HR : Hid (Row w a n) := hr
    clear hr hs
    go_enter Tryd.func3, Tryd.ntmps3
    go_upto_region 4 with (first | (go_at_call 5; (with_reducible refine (hz _).mono ?_); rintro e w' ⟨rfl, hw⟩; obtain rfl := hw.symm) | (go_at_call 6; refine hd.mono ?_; rintro e w1 ⟨x, k, p, rfl, hb1⟩; have B1 : Hid (Below w.heap.size w w1) := hb1; clear hb1))
    have hs1 := HS.out.below B1.out
    have hr1 := HR.out.below B1.out
    have j1 : ∀ W, Prs W → _ := fun W hW => iInv_any x p (w := W) hW
    have j2 := sInv_any x p
    have j3 : ∀ W, Row W a n → _ := fun W hW => at_x (w := W) (cap := cap) hW h
    have j4 : ∀ W, Prs W → _ := fun W hW => iPow_any x k p (w := W) hW
    have j5 : ∀ m W, Prs W → _ := fun m W hW => iPow_any x m p (w := W) hW
    have j6 : ∀ m W, Prs W → _ := fun m W hW => iPow_any x (k + m) p (w := W) hW
    obtain ⟨U, hU⟩ : ∃ U, unV 256 469762049 = U := ⟨_, rfl⟩
    have j7 : ∀ W, Prs W → Calls Tryd.prog 11 #[.int .i64 256, .int .i64 469762049] W fun e w' => e = .returned (.int .i64 U) ∧ w' = W := fun W hW => by have := iUnit_any 256 469762049 (w := W) hW; rw [hU] at this; exact this
    have j8 : ∀ W, Prs W → Calls Tryd.prog 10 #[.int .i64 U, .int .i64 256, .int .i64 469762049] W fun e w' => e = .returned (.int .i64 1) ∧ w' = W := fun W hW => by have := iPow_any (unV 256 469762049) 256 469762049 (w := W) hW; rw [unit_one, hU] at this; exact this
    have j9 : ∀ W, Prs W → Calls Tryd.prog 10 #[.int .i64 U, .int .i64 128, .int .i64 469762049] W fun e w' => e = .returned (.int .i64 469762048) ∧ w' = W := fun W hW => by have := iPow_any (unV 256 469762049) 128 469762049 (w := W) hW; rw [unit_neg, hU] at this; exact this
    clear hU
    by_cases hG : Prm p ∧ (1 ≤ x ∧ x ≤ p - 1)
    · obtain ⟨hp, hx⟩ := hG
      have hpb := hp.bounds
      obtain ⟨hI, hI2⟩ := inv_pos hp hx
      have bI := ivV_bounds (a := x) hp
      have mI := mul_lt (a := ivV x p) (b := x) (p := p) bI.1 bI.2 (by omega) (by omega) hpb.2
      have HB : Hid (∀ m, 0 ≤ pwV x m p ∧ pwV x m p < p) := fun m => pw_bounds hp
      have bX := HB.out k
      by_cases hk1 : 0 ≤ k
      · by_cases hk2 : k < 3999999999999999700
        · have HSM : Hid (∀ m, 0 ≤ m ∧ m ≤ 255 → pwV x k p * pwV x m p % p = pwV x (k + m) p) := fun m hm => pw_sum hp (by omega) hk1 hm.1 (by omega)
          generalize ivV x p = I at *
          clear hp
          go_wp2_with (first | (go_at_call 7; (with_reducible refine (j1 _ (by first | exact hs1 | exact hs1.dn _ | exact (hs1.dn _).dn _ | exact ((hs1.dn _).dn _).dn _)).mono ?_); rintro e w' ⟨rfl, hw⟩; obtain rfl := hw.symm) | (go_at_call 8; (with_reducible refine (j2 _).mono ?_); rintro e w' ⟨rfl, hw⟩; obtain rfl := hw.symm) | (go_at_call 9; refine (j3 _ (by exact hr1)).mono ?_; rintro e w' ⟨m, hm, rfl, hw⟩; obtain rfl := hw.symm; have bY := HB.out m; have mXY := mul_lt (a := pwV x k p) (b := pwV x m p) (p := p) bX.1 bX.2 bY.1 bY.2 hpb.2; have e9 := HSM.out m hm) | (go_at_call 10; (with_reducible refine (j4 _ (by first | exact hs1 | exact hs1.dn _ | exact (hs1.dn _).dn _ | exact ((hs1.dn _).dn _).dn _)).mono ?_); rintro e w' ⟨rfl, hw⟩; obtain rfl := hw.symm) | (go_at_call 10; (with_reducible refine (j5 _ _ (by first | exact hs1 | exact hs1.dn _ | exact (hs1.dn _).dn _ | exact ((hs1.dn _).dn _).dn _)).mono ?_); rintro e w' ⟨rfl, hw⟩; obtain rfl := hw.symm) | (go_at_call 10; (with_reducible refine (j6 _ _ (by first | exact hs1 | exact hs1.dn _ | exact (hs1.dn _).dn _ | exact ((hs1.dn _).dn _).dn _)).mono ?_); rintro e w' ⟨rfl, hw⟩; obtain rfl := hw.symm) | (go_at_call 10; (with_reducible refine (j8 _ (by first | exact hs1 | exact hs1.dn _ | exact (hs1.dn _).dn _ | exact ((hs1.dn _).dn _).dn _)).mono ?_); rintro e w' ⟨rfl, hw⟩; obtain rfl := hw.symm) | (go_at_call 10; (with_reducible refine (j9 _ (by first | exact hs1 | exact hs1.dn _ | exact (hs1.dn _).dn _ | exact ((hs1.dn _).dn _).dn _)).mono ?_); rintro e w' ⟨rfl, hw⟩; obtain rfl := hw.symm) | (go_at_call 11; (with_reducible refine (j7 _ (by first | exact hs1 | exact hs1.dn _ | exact (hs1.dn _).dn _ | exact ((hs1.dn _).dn _).dn _)).mono ?_); rintro e w' ⟨rfl, hw⟩; obtain rfl := hw.symm) | (go_quiet (first | (go_at_call 8; exact Calls.quiet_of_same (j2 _)) | (go_at_call 10; (with_reducible exact Calls.quiet_of_same (j5 _ _ (by first | exact hs1 | exact hs1.dn _ | exact (hs1.dn _).dn _ | exact ((hs1.dn _).dn _).dn _)))) | (go_at_call 10; (with_reducible exact Calls.quiet_of_same (j6 _ _ (by first | exact hs1 | exact hs1.dn _ | exact (hs1.dn _).dn _ | exact ((hs1.dn _).dn _).dn _)))) | (go_at_call 10; (with_reducible exact Calls.quiet_of_same (j8 _ (by first | exact hs1 | exact hs1.dn _ | exact (hs1.dn _).dn _ | exact ((hs1.dn _).dn _).dn _)))) | (go_at_call 10; (with_reducible exact Calls.quiet_of_same (j9 _ (by first | exact hs1 | exact hs1.dn _ | exact (hs1.dn _).dn _ | exact ((hs1.dn _).dn _).dn _)))))))
          go_ret
          exact ⟨rfl, by first | exact B1.out | exact below_drewN B1.out _ | exact below_drewN (below_drewN B1.out _) _ | exact below_drewN (below_drewN (below_drewN B1.out _) _) _⟩
        · have hk3 : decide (k < 3999999999999999700) = false := by simp; omega
          generalize ivV x p = I at *
          clear hp HB
          go_wp2_with (first | (go_at_call 7; (with_reducible refine (j1 _ (by first | exact hs1 | exact hs1.dn _ | exact (hs1.dn _).dn _ | exact ((hs1.dn _).dn _).dn _)).mono ?_); rintro e w' ⟨rfl, hw⟩; obtain rfl := hw.symm) | (go_at_call 8; (with_reducible refine (j2 _).mono ?_); rintro e w' ⟨rfl, hw⟩; obtain rfl := hw.symm) | (go_at_call 9; refine (j3 _ (by exact hr1)).mono ?_; rintro e w' ⟨m, hm, rfl, hw⟩; obtain rfl := hw.symm) | (go_at_call 10; (with_reducible refine (j4 _ (by first | exact hs1 | exact hs1.dn _ | exact (hs1.dn _).dn _ | exact ((hs1.dn _).dn _).dn _)).mono ?_); rintro e w' ⟨rfl, hw⟩; obtain rfl := hw.symm) | (go_at_call 10; (with_reducible refine (j5 _ _ (by first | exact hs1 | exact hs1.dn _ | exact (hs1.dn _).dn _ | exact ((hs1.dn _).dn _).dn _)).mono ?_); rintro e w' ⟨rfl, hw⟩; obtain rfl := hw.symm) | (go_at_call 10; (with_reducible refine (j6 _ _ (by first | exact hs1 | exact hs1.dn _ | exact (hs1.dn _).dn _ | exact ((hs1.dn _).dn _).dn _)).mono ?_); rintro e w' ⟨rfl, hw⟩; obtain rfl := hw.symm) | (go_at_call 10; (with_reducible refine (j8 _ (by first | exact hs1 | exact hs1.dn _ | exact (hs1.dn _).dn _ | exact ((hs1.dn _).dn _).dn _)).mono ?_); rintro e w' ⟨rfl, hw⟩; obtain rfl := hw.symm) | (go_at_call 10; (with_reducible refine (j9 _ (by first | exact hs1 | exact hs1.dn _ | exact (hs1.dn _).dn _ | exact ((hs1.dn _).dn _).dn _)).mono ?_); rintro e w' ⟨rfl, hw⟩; obtain rfl := hw.symm) | (go_at_call 11; (with_reducible refine (j7 _ (by first | exact hs1 | exact hs1.dn _ | exact (hs1.dn _).dn _ | exact ((hs1.dn _).dn _).dn _)).mono ?_); rintro e w' ⟨rfl, hw⟩; obtain rfl := hw.symm) | (go_quiet (first | (go_at_call 8; exact Calls.quiet_of_same (j2 _)) | (go_at_call 10; (with_reducible exact Calls.quiet_of_same (j5 _ _ (by first | exact hs1 | exact hs1.dn _ | exact (hs1.dn _).dn _ | exact ((hs1.dn _).dn _).dn _)))) | (go_at_call 10; (with_reducible exact Calls.quiet_of_same (j6 _ _ (by first | exact hs1 | exact hs1.dn _ | exact (hs1.dn _).dn _ | exact ((hs1.dn _).dn _).dn _)))) | (go_at_call 10; (with_reducible exact Calls.quiet_of_same (j8 _ (by first | exact hs1 | exact hs1.dn _ | exact (hs1.dn _).dn _ | exact ((hs1.dn _).dn _).dn _)))) | (go_at_call 10; (with_reducible exact Calls.quiet_of_same (j9 _ (by first | exact hs1 | exact hs1.dn _ | exact (hs1.dn _).dn _ | exact ((hs1.dn _).dn _).dn _)))))))
          go_ret
          exact ⟨rfl, by first | exact B1.out | exact below_drewN B1.out _ | exact below_drewN (below_drewN B1.out _) _ | exact below_drewN (below_drewN (below_drewN B1.out _) _) _⟩
      · have hk3 : decide (0 ≤ k) = false := by simp; omega
        generalize ivV x p = I at *
        clear hp HB
        go_wp2_with (first | (go_at_call 7; (with_reducible refine (j1 _ (by first | exact hs1 | exact hs1.dn _ | exact (hs1.dn _).dn _ | exact ((hs1.dn _).dn _).dn _)).mono ?_); rintro e w' ⟨rfl, hw⟩; obtain rfl := hw.symm) | (go_at_call 8; (with_reducible refine (j2 _).mono ?_); rintro e w' ⟨rfl, hw⟩; obtain rfl := hw.symm) | (go_at_call 9; refine (j3 _ (by exact hr1)).mono ?_; rintro e w' ⟨m, hm, rfl, hw⟩; obtain rfl := hw.symm) | (go_at_call 10; (with_reducible refine (j4 _ (by first | exact hs1 | exact hs1.dn _ | exact (hs1.dn _).dn _ | exact ((hs1.dn _).dn _).dn _)).mono ?_); rintro e w' ⟨rfl, hw⟩; obtain rfl := hw.symm) | (go_at_call 10; (with_reducible refine (j5 _ _ (by first | exact hs1 | exact hs1.dn _ | exact (hs1.dn _).dn _ | exact ((hs1.dn _).dn _).dn _)).mono ?_); rintro e w' ⟨rfl, hw⟩; obtain rfl := hw.symm) | (go_at_call 10; (with_reducible refine (j6 _ _ (by first | exact hs1 | exact hs1.dn _ | exact (hs1.dn _).dn _ | exact ((hs1.dn _).dn _).dn _)).mono ?_); rintro e w' ⟨rfl, hw⟩; obtain rfl := hw.symm) | (go_at_call 10; (with_reducible refine (j8 _ (by first | exact hs1 | exact hs1.dn _ | exact (hs1.dn _).dn _ | exact ((hs1.dn _).dn _).dn _)).mono ?_); rintro e w' ⟨rfl, hw⟩; obtain rfl := hw.symm) | (go_at_call 10; (with_reducible refine (j9 _ (by first | exact hs1 | exact hs1.dn _ | exact (hs1.dn _).dn _ | exact ((hs1.dn _).dn _).dn _)).mono ?_); rintro e w' ⟨rfl, hw⟩; obtain rfl := hw.symm) | (go_at_call 11; (with_reducible refine (j7 _ (by first | exact hs1 | exact hs1.dn _ | exact (hs1.dn _).dn _ | exact ((hs1.dn _).dn _).dn _)).mono ?_); rintro e w' ⟨rfl, hw⟩; obtain rfl := hw.symm) | (go_quiet (first | (go_at_call 8; exact Calls.quiet_of_same (j2 _)) | (go_at_call 10; (with_reducible exact Calls.quiet_of_same (j5 _ _ (by first | exact hs1 | exact hs1.dn _ | exact (hs1.dn _).dn _ | exact ((hs1.dn _).dn _).dn _)))) | (go_at_call 10; (with_reducible exact Calls.quiet_of_same (j6 _ _ (by first | exact hs1 | exact hs1.dn _ | exact (hs1.dn _).dn _ | exact ((hs1.dn _).dn _).dn _)))) | (go_at_call 10; (with_reducible exact Calls.quiet_of_same (j8 _ (by first | exact hs1 | exact hs1.dn _ | exact (hs1.dn _).dn _ | exact ((hs1.dn _).dn _).dn _)))) | (go_at_call 10; (with_reducible exact Calls.quiet_of_same (j9 _ (by first | exact hs1 | exact hs1.dn _ | exact (hs1.dn _).dn _ | exact ((hs1.dn _).dn _).dn _)))))))
        go_ret
        exact ⟨rfl, by first | exact B1.out | exact below_drewN B1.out _ | exact below_drewN (below_drewN B1.out _) _ | exact below_drewN (below_drewN (below_drewN B1.out _) _) _⟩
    · have e0 : ivV x p = 0 := (ivV_no hG).symm
      rw [e0] at j1 j2
      clear hG e0
      by_cases hk1 : 0 ≤ k
      · by_cases hk2 : k < 3999999999999999700
        · go_wp2_with (first | (go_at_call 7; (with_reducible refine (j1 _ (by first | exact hs1 | exact hs1.dn _ | exact (hs1.dn _).dn _ | exact ((hs1.dn _).dn _).dn _)).mono ?_); rintro e w' ⟨rfl, hw⟩; obtain rfl := hw.symm) | (go_at_call 8; (with_reducible refine (j2 _).mono ?_); rintro e w' ⟨rfl, hw⟩; obtain rfl := hw.symm) | (go_at_call 9; refine (j3 _ (by exact hr1)).mono ?_; rintro e w' ⟨m, hm, rfl, hw⟩; obtain rfl := hw.symm) | (go_at_call 10; (with_reducible refine (j4 _ (by first | exact hs1 | exact hs1.dn _ | exact (hs1.dn _).dn _ | exact ((hs1.dn _).dn _).dn _)).mono ?_); rintro e w' ⟨rfl, hw⟩; obtain rfl := hw.symm) | (go_at_call 10; (with_reducible refine (j5 _ _ (by first | exact hs1 | exact hs1.dn _ | exact (hs1.dn _).dn _ | exact ((hs1.dn _).dn _).dn _)).mono ?_); rintro e w' ⟨rfl, hw⟩; obtain rfl := hw.symm) | (go_at_call 10; (with_reducible refine (j6 _ _ (by first | exact hs1 | exact hs1.dn _ | exact (hs1.dn _).dn _ | exact ((hs1.dn _).dn _).dn _)).mono ?_); rintro e w' ⟨rfl, hw⟩; obtain rfl := hw.symm) | (go_at_call 10; (with_reducible refine (j8 _ (by first | exact hs1 | exact hs1.dn _ | exact (hs1.dn _).dn _ | exact ((hs1.dn _).dn _).dn _)).mono ?_); rintro e w' ⟨rfl, hw⟩; obtain rfl := hw.symm) | (go_at_call 10; (with_reducible refine (j9 _ (by first | exact hs1 | exact hs1.dn _ | exact (hs1.dn _).dn _ | exact ((hs1.dn _).dn _).dn _)).mono ?_); rintro e w' ⟨rfl, hw⟩; obtain rfl := hw.symm) | (go_at_call 11; (with_reducible refine (j7 _ (by first | exact hs1 | exact hs1.dn _ | exact (hs1.dn _).dn _ | exact ((hs1.dn _).dn _).dn _)).mono ?_); rintro e w' ⟨rfl, hw⟩; obtain rfl := hw.symm) | (go_quiet (first | (go_at_call 8; exact Calls.quiet_of_same (j2 _)) | (go_at_call 10; (with_reducible exact Calls.quiet_of_same (j5 _ _ (by first | exact hs1 | exact hs1.dn _ | exact (hs1.dn _).dn _ | exact ((hs1.dn _).dn _).dn _)))) | (go_at_call 10; (with_reducible exact Calls.quiet_of_same (j6 _ _ (by first | exact hs1 | exact hs1.dn _ | exact (hs1.dn _).dn _ | exact ((hs1.dn _).dn _).dn _)))) | (go_at_call 10; (with_reducible exact Calls.quiet_of_same (j8 _ (by first | exact hs1 | exact hs1.dn _ | exact (hs1.dn _).dn _ | exact ((hs1.dn _).dn _).dn _)))) | (go_at_call 10; (with_reducible exact Calls.quiet_of_same (j9 _ (by first | exact hs1 | exact hs1.dn _ | exact (hs1.dn _).dn _ | exact ((hs1.dn _).dn _).dn _)))))))
          go_ret
          exact ⟨rfl, by first | exact B1.out | exact below_drewN B1.out _ | exact below_drewN (below_drewN B1.out _) _ | exact below_drewN (below_drewN (below_drewN B1.out _) _) _⟩
        · have hk3 : decide (k < 3999999999999999700) = false := by simp; omega
          go_wp2_with (first | (go_at_call 7; (with_reducible refine (j1 _ (by first | exact hs1 | exact hs1.dn _ | exact (hs1.dn _).dn _ | exact ((hs1.dn _).dn _).dn _)).mono ?_); rintro e w' ⟨rfl, hw⟩; obtain rfl := hw.symm) | (go_at_call 8; (with_reducible refine (j2 _).mono ?_); rintro e w' ⟨rfl, hw⟩; obtain rfl := hw.symm) | (go_at_call 9; refine (j3 _ (by exact hr1)).mono ?_; rintro e w' ⟨m, hm, rfl, hw⟩; obtain rfl := hw.symm) | (go_at_call 10; (with_reducible refine (j4 _ (by first | exact hs1 | exact hs1.dn _ | exact (hs1.dn _).dn _ | exact ((hs1.dn _).dn _).dn _)).mono ?_); rintro e w' ⟨rfl, hw⟩; obtain rfl := hw.symm) | (go_at_call 10; (with_reducible refine (j5 _ _ (by first | exact hs1 | exact hs1.dn _ | exact (hs1.dn _).dn _ | exact ((hs1.dn _).dn _).dn _)).mono ?_); rintro e w' ⟨rfl, hw⟩; obtain rfl := hw.symm) | (go_at_call 10; (with_reducible refine (j6 _ _ (by first | exact hs1 | exact hs1.dn _ | exact (hs1.dn _).dn _ | exact ((hs1.dn _).dn _).dn _)).mono ?_); rintro e w' ⟨rfl, hw⟩; obtain rfl := hw.symm) | (go_at_call 10; (with_reducible refine (j8 _ (by first | exact hs1 | exact hs1.dn _ | exact (hs1.dn _).dn _ | exact ((hs1.dn _).dn _).dn _)).mono ?_); rintro e w' ⟨rfl, hw⟩; obtain rfl := hw.symm) | (go_at_call 10; (with_reducible refine (j9 _ (by first | exact hs1 | exact hs1.dn _ | exact (hs1.dn _).dn _ | exact ((hs1.dn _).dn _).dn _)).mono ?_); rintro e w' ⟨rfl, hw⟩; obtain rfl := hw.symm) | (go_at_call 11; (with_reducible refine (j7 _ (by first | exact hs1 | exact hs1.dn _ | exact (hs1.dn _).dn _ | exact ((hs1.dn _).dn _).dn _)).mono ?_); rintro e w' ⟨rfl, hw⟩; obtain rfl := hw.symm) | (go_quiet (first | (go_at_call 8; exact Calls.quiet_of_same (j2 _)) | (go_at_call 10; (with_reducible exact Calls.quiet_of_same (j5 _ _ (by first | exact hs1 | exact hs1.dn _ | exact (hs1.dn _).dn _ | exact ((hs1.dn _).dn _).dn _)))) | (go_at_call 10; (with_reducible exact Calls.quiet_of_same (j6 _ _ (by first | exact hs1 | exact hs1.dn _ | exact (hs1.dn _).dn _ | exact ((hs1.dn _).dn _).dn _)))) | (go_at_call 10; (with_reducible exact Calls.quiet_of_same (j8 _ (by first | exact hs1 | exact hs1.dn _ | exact (hs1.dn _).dn _ | exact ((hs1.dn _).dn _).dn _)))) | (go_at_call 10; (with_reducible exact Calls.quiet_of_same (j9 _ (by first | exact hs1 | exact hs1.dn _ | exact (hs1.dn _).dn _ | exact ((hs1.dn _).dn _).dn _)))))))
          go_ret
          exact ⟨rfl, by first | exact B1.out | exact below_drewN B1.out _ | exact below_drewN (below_drewN B1.out _) _ | exact below_drewN (below_drewN (below_drewN B1.out _) _) _⟩
      · have hk3 : decide (0 ≤ k) = false := by simp; omega
        go_wp2_with (first | (go_at_call 7; (with_reducible refine (j1 _ (by first | exact hs1 | exact hs1.dn _ | exact (hs1.dn _).dn _ | exact ((hs1.dn _).dn _).dn _)).mono ?_); rintro e w' ⟨rfl, hw⟩; obtain rfl := hw.symm) | (go_at_call 8; (with_reducible refine (j2 _).mono ?_); rintro e w' ⟨rfl, hw⟩; obtain rfl := hw.symm) | (go_at_call 9; refine (j3 _ (by exact hr1)).mono ?_; rintro e w' ⟨m, hm, rfl, hw⟩; obtain rfl := hw.symm) | (go_at_call 10; (with_reducible refine (j4 _ (by first | exact hs1 | exact hs1.dn _ | exact (hs1.dn _).dn _ | exact ((hs1.dn _).dn _).dn _)).mono ?_); rintro e w' ⟨rfl, hw⟩; obtain rfl := hw.symm) | (go_at_call 10; (with_reducible refine (j5 _ _ (by first | exact hs1 | exact hs1.dn _ | exact (hs1.dn _).dn _ | exact ((hs1.dn _).dn _).dn _)).mono ?_); rintro e w' ⟨rfl, hw⟩; obtain rfl := hw.symm) | (go_at_call 10; (with_reducible refine (j6 _ _ (by first | exact hs1 | exact hs1.dn _ | exact (hs1.dn _).dn _ | exact ((hs1.dn _).dn _).dn _)).mono ?_); rintro e w' ⟨rfl, hw⟩; obtain rfl := hw.symm) | (go_at_call 10; (with_reducible refine (j8 _ (by first | exact hs1 | exact hs1.dn _ | exact (hs1.dn _).dn _ | exact ((hs1.dn _).dn _).dn _)).mono ?_); rintro e w' ⟨rfl, hw⟩; obtain rfl := hw.symm) | (go_at_call 10; (with_reducible refine (j9 _ (by first | exact hs1 | exact hs1.dn _ | exact (hs1.dn _).dn _ | exact ((hs1.dn _).dn _).dn _)).mono ?_); rintro e w' ⟨rfl, hw⟩; obtain rfl := hw.symm) | (go_at_call 11; (with_reducible refine (j7 _ (by first | exact hs1 | exact hs1.dn _ | exact (hs1.dn _).dn _ | exact ((hs1.dn _).dn _).dn _)).mono ?_); rintro e w' ⟨rfl, hw⟩; obtain rfl := hw.symm) | (go_quiet (first | (go_at_call 8; exact Calls.quiet_of_same (j2 _)) | (go_at_call 10; (with_reducible exact Calls.quiet_of_same (j5 _ _ (by first | exact hs1 | exact hs1.dn _ | exact (hs1.dn _).dn _ | exact ((hs1.dn _).dn _).dn _)))) | (go_at_call 10; (with_reducible exact Calls.quiet_of_same (j6 _ _ (by first | exact hs1 | exact hs1.dn _ | exact (hs1.dn _).dn _ | exact ((hs1.dn _).dn _).dn _)))) | (go_at_call 10; (with_reducible exact Calls.quiet_of_same (j8 _ (by first | exact hs1 | exact hs1.dn _ | exact (hs1.dn _).dn _ | exact ((hs1.dn _).dn _).dn _)))) | (go_at_call 10; (with_reducible exact Calls.quiet_of_same (j9 _ (by first | exact hs1 | exact hs1.dn _ | exact (hs1.dn _).dn _ | exact ((hs1.dn _).dn _).dn _)))))))
        go_ret
        exact ⟨rfl, by first | exact B1.out | exact below_drewN B1.out _ | exact below_drewN (below_drewN B1.out _) _ | exact below_drewN (below_drewN (below_drewN B1.out _) _) _⟩
  · rw [decide_eq_true (show (1048576 : Int) < (n : Int) by omega)] at hz
    clear hr hs
    go_enter Tryd.func3, Tryd.ntmps3
    go_wp2_with (go_at_call 5; (with_reducible refine (hz _).mono ?_); rintro e w' ⟨rfl, hw⟩; obtain rfl := hw.symm)
    go_ret
    exact ⟨rfl, Below.refl _ _⟩
end Go.Proofs.YtpnejhibcdaedaaDoor
