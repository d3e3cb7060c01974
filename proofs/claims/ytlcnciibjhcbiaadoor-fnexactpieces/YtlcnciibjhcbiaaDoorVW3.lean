/- The model's Cosine and Sine, the laws of Cosine, Sine and Turn. -/
import Derived.Test.YtlcnciibjhcbiaaDoorVW2
namespace Go.Proofs.YtlcnciibjhcbiaaDoor.Wv
open Go.RowKit

set_option maxRecDepth 20000 in
set_option maxHeartbeats 2000000 in
theorem at_any {w : World} {v : Value} (hv : Il w v 65 ct) (s : Int) : Calls Tryd.prog 53 #[v, .int .i64 s] w fun e w' => e = .returned (.int .i64 (cosv s)) ∧ w' = w := by
  obtain ⟨ao, cap, rfl, hcap, hc⟩ := hv
  obtain ⟨b, off, rfl, hlt, hcell⟩ := hc (by omega)
  clear hc
  have r0 := Int.emod_nonneg s (show (256 : Int) ≠ 0 by decide)
  have r1 := Int.emod_lt_of_pos s (show (0 : Int) < 256 by decide)
  have t1 := Int.tmod_lt_of_pos s (show (0 : Int) < 256 by decide)
  have t2 := Int.lt_tmod_of_pos s (show (0 : Int) < 256 by decide)
  have hv : cosv s = cosr (s % 256) := rfl
  rw [hv]
  clear hv
  obtain ⟨n, hn⟩ := Int.eq_ofNat_of_zero_le r0
  obtain ⟨y, hy⟩ : ∃ y, y = cosr (n : Int) := ⟨_, rfl⟩
  rw [hn, ← hy]
  have HY : Hid (y = cosr (n : Int)) := hy
  clear hy
  by_cases ht : s.tmod 256 < 0
  · have q := (tdiv_neg (show (1 : Int) ≤ 256 by decide) ht).2
    rw [hn] at q r1
    clear hn r0
    generalize hT : s.tmod 256 = t at *
    have q2 : t = (n : Int) - 256 := by omega
    subst q2
    by_cases g0 : n ≤ 64
    · have d := hcell (n) (by omega)
      have hb := ct_bounds (n)
      obtain ⟨x, hx⟩ : ∃ x, x = ct (n) := ⟨_, rfl⟩
      have E : Hid (x = y) := by rw [HY.out, hx]; unfold cosr; rw [if_pos (by omega)]; congr 1 <;> omega
      rw [← hx] at d hb
      clear hx hcell HY
      go_enter Tryd.func53, Tryd.ntmps53
      go_wp2
      go_ret
      exact ret1 E.out rfl
    · by_cases g1 : n ≤ 128
      · have d := hcell (128 - n) (by omega)
        have hb := ct_bounds (128 - n)
        obtain ⟨x, hx⟩ : ∃ x, x = ct (128 - n) := ⟨_, rfl⟩
        have E : Hid (-x = y) := by rw [HY.out, hx]; unfold cosr; rw [if_neg (by omega), if_pos (by omega)]; congr 2 <;> omega
        rw [← hx] at d hb
        clear hx hcell HY
        go_enter Tryd.func53, Tryd.ntmps53
        go_wp2
        go_ret
        exact ret1 E.out rfl
      · by_cases g2 : n ≤ 192
        · have d := hcell (n - 128) (by omega)
          have hb := ct_bounds (n - 128)
          obtain ⟨x, hx⟩ : ∃ x, x = ct (n - 128) := ⟨_, rfl⟩
          have E : Hid (-x = y) := by rw [HY.out, hx]; unfold cosr; rw [if_neg (by omega), if_neg (by omega), if_pos (by omega)]; congr 2 <;> omega
          rw [← hx] at d hb
          clear hx hcell HY
          go_enter Tryd.func53, Tryd.ntmps53
          go_wp2
          go_ret
          exact ret1 E.out rfl
        · have d := hcell (256 - n) (by omega)
          have hb := ct_bounds (256 - n)
          obtain ⟨x, hx⟩ : ∃ x, x = ct (256 - n) := ⟨_, rfl⟩
          have E : Hid (x = y) := by rw [HY.out, hx]; unfold cosr; rw [if_neg (by omega), if_neg (by omega), if_neg (by omega)]; congr 1 <;> omega
          rw [← hx] at d hb
          clear hx hcell HY
          go_enter Tryd.func53, Tryd.ntmps53
          go_wp2
          go_ret
          exact ret1 E.out rfl

  · have q := (tdiv_pos (show (1 : Int) ≤ 256 by decide) ht).2
    rw [hn] at q r1
    clear hn r0
    generalize hT : s.tmod 256 = t at *
    subst q
    by_cases g0 : n ≤ 64
    · have d := hcell (n) (by omega)
      have hb := ct_bounds (n)
      obtain ⟨x, hx⟩ : ∃ x, x = ct (n) := ⟨_, rfl⟩
      have E : Hid (x = y) := by rw [HY.out, hx]; unfold cosr; rw [if_pos (by omega)]; congr 1 <;> omega
      rw [← hx] at d hb
      clear hx hcell HY
      go_enter Tryd.func53, Tryd.ntmps53
      go_wp2
      go_ret
      exact ret1 E.out rfl
    · by_cases g1 : n ≤ 128
      · have d := hcell (128 - n) (by omega)
        have hb := ct_bounds (128 - n)
        obtain ⟨x, hx⟩ : ∃ x, x = ct (128 - n) := ⟨_, rfl⟩
        have E : Hid (-x = y) := by rw [HY.out, hx]; unfold cosr; rw [if_neg (by omega), if_pos (by omega)]; congr 2 <;> omega
        rw [← hx] at d hb
        clear hx hcell HY
        go_enter Tryd.func53, Tryd.ntmps53
        go_wp2
        go_ret
        exact ret1 E.out rfl
      · by_cases g2 : n ≤ 192
        · have d := hcell (n - 128) (by omega)
          have hb := ct_bounds (n - 128)
          obtain ⟨x, hx⟩ : ∃ x, x = ct (n - 128) := ⟨_, rfl⟩
          have E : Hid (-x = y) := by rw [HY.out, hx]; unfold cosr; rw [if_neg (by omega), if_neg (by omega), if_pos (by omega)]; congr 2 <;> omega
          rw [← hx] at d hb
          clear hx hcell HY
          go_enter Tryd.func53, Tryd.ntmps53
          go_wp2
          go_ret
          exact ret1 E.out rfl
        · have d := hcell (256 - n) (by omega)
          have hb := ct_bounds (256 - n)
          obtain ⟨x, hx⟩ : ∃ x, x = ct (256 - n) := ⟨_, rfl⟩
          have E : Hid (x = y) := by rw [HY.out, hx]; unfold cosr; rw [if_neg (by omega), if_neg (by omega), if_neg (by omega)]; congr 1 <;> omega
          rw [← hx] at d hb
          clear hx hcell HY
          go_enter Tryd.func53, Tryd.ntmps53
          go_wp2
          go_ret
          exact ret1 E.out rfl

set_option maxHeartbeats 1000000 in
theorem sCos_any (s : Int) (w : World) : Calls Tryd.prog 40 #[.int .i64 s] w fun e w' => e = .returned (.int .i64 (cosv s)) ∧ Below w.heap.size w w' := by
  have i1 := all_any w
  have i2 : ∀ W v, Il W v 65 ct → Calls Tryd.prog 53 #[v, .int .i64 s] W fun e w' => e = .returned (.int .i64 (cosv s)) ∧ w' = W := fun W v h => at_any h s
  generalize cosv s = y at i2 ⊢
  go_enter Tryd.func40, Tryd.ntmps40
  go_wp2_with (first | (go_at_call 54; (refine (i1).mono ?_); rintro e w1 ⟨v, rfl, hv, hb1⟩; have HV : Hid (Il w1 v 65 ct) := hv; clear hv) | (go_at_call 53; (refine (i2 _ _ HV.out).mono ?_); rintro e w' ⟨rfl, hw⟩; obtain rfl := hw.symm))
  go_ret
  exact ⟨rfl, hb1⟩

theorem sin_tmod (s : Int) : cosv (s.tmod 256 - 64) = sinv s := by
  refine cosv_congr ?_
  by_cases ht : s.tmod 256 < 0
  · have q := (tdiv_neg (show (1 : Int) ≤ 256 by decide) ht).2
    omega
  · have q := (tdiv_pos (show (1 : Int) ≤ 256 by decide) ht).2
    omega

theorem sSin_any (s : Int) (w : World) : Calls Tryd.prog 41 #[.int .i64 s] w fun e w' => e = .returned (.int .i64 (sinv s)) ∧ Below w.heap.size w w' := by
  have i1 := sCos_any (s.tmod 256 - 64)
  rw [sin_tmod] at i1
  have t1 := Int.tmod_lt_of_pos s (show (0 : Int) < 256 by decide)
  have t2 := Int.lt_tmod_of_pos s (show (0 : Int) < 256 by decide)
  generalize sinv s = y at i1 ⊢
  go_enter Tryd.func41, Tryd.ntmps41
  go_wp2_with (first | (go_at_call 40; (with_reducible refine (i1 _).mono ?_); rintro e w1 ⟨rfl, hb1⟩))
  go_ret
  exact ⟨rfl, hb1⟩

end Go.Proofs.YtlcnciibjhcbiaaDoor.Wv
