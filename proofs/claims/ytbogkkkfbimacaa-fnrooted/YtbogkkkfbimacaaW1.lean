/- PowPair on both sides. -/
import Derived.Test.YtbogkkkfbimacaaP3
namespace Go.Proofs.Ytbogkkkfbimacaa
open Go.RowKit

/-- The power by halving. -/
def cpw2 (n : Nat) (r1 r2 s1 s2 : Option Nat) : Option Nat × Option Nat :=
  if h : n = 0 then (r1, r2)
  else if n % 2 = 1 then cpw2 (n / 2) (cre r1 r2 s1 s2) (cim r1 r2 s1 s2) (cre s1 s2 s1 s2) (cim s1 s2 s1 s2)
  else cpw2 (n / 2) r1 r2 (cre s1 s2 s1 s2) (cim s1 s2 s1 s2)
termination_by n
decreasing_by all_goals omega

theorem cpw2_zero (r1 r2 s1 s2 : Option Nat) : cpw2 0 r1 r2 s1 s2 = (r1, r2) := by rw [cpw2]; simp
theorem cpw2_odd {n : Nat} (h : n % 2 = 1) (r1 r2 s1 s2 : Option Nat) : cpw2 n r1 r2 s1 s2 = cpw2 (n / 2) (cre r1 r2 s1 s2) (cim r1 r2 s1 s2) (cre s1 s2 s1 s2) (cim s1 s2 s1 s2) := by
  rw [cpw2]; rw [dif_neg (by omega), if_pos h]
theorem cpw2_even {n : Nat} (h0 : 0 < n) (h : n % 2 = 0) (r1 r2 s1 s2 : Option Nat) : cpw2 n r1 r2 s1 s2 = cpw2 (n / 2) r1 r2 (cre s1 s2 s1 s2) (cim s1 s2 s1 s2) := by
  rw [cpw2]; rw [dif_neg (by omega), if_neg (by omega)]
theorem cpw2_one (r1 r2 s1 s2 : Option Nat) : cpw2 1 r1 r2 s1 s2 = (cre r1 r2 s1 s2, cim r1 r2 s1 s2) := by
  rw [cpw2_odd (by decide)]; exact cpw2_zero _ _ _ _

/-- One, as bits. -/
theorem cn_one : cn 4607182418800017408 = some 4607182418800017408 := by decide +kernel
theorem cn_zero : cn 0 = some 0 := by decide +kernel

set_option maxHeartbeats 1000000 in
theorem in_any (n : Int) (w : World) : Calls Try.prog 49 #[.int .i64 n, .int .i64 0, .int .i64 1000] w fun e w' => e = .returned (.bool (decide (0 ≤ n ∧ n ≤ 1000))) ∧ w' = w := by
  by_cases h1 : 0 ≤ n
  · by_cases h2 : n ≤ 1000
    · rw [decide_eq_true ⟨h1, h2⟩]
      go_enter Try.func49, Try.ntmps49
      go_wp2
      go_ret
      exact ⟨rfl, rfl⟩
    · rw [decide_eq_false (fun h => h2 h.2)]
      go_enter Try.func49, Try.ntmps49
      go_wp2
      go_ret
      exact ⟨rfl, rfl⟩
  · rw [decide_eq_false (fun h => h1 h.1)]
    go_enter Try.func49, Try.ntmps49
    go_wp2
    go_ret
    exact ⟨rfl, rfl⟩

set_option maxHeartbeats 2000000 in
theorem iPowP_any (a b n : Nat) (hn : n ≤ 1000) (w : World) : Calls Try.prog 18 #[Pv a b, .int .i64 n] w fun e w' => ∃ x y, e = .returned (Pv x y) ∧ (cn x, cn y) = cpw2 n (some 4607182418800017408) (some 0) (cn a) (cn b) ∧ Below w.heap.size w w' := by
  have hST := rStore
  have g0 := (Rb.new (w.alloc (.cells #[.float .f64 a, .float .f64 b] 26)) 0 0 26 (g := w.heap.size + 1) (by simp))
  have hW : Below w.heap.size w ((w.alloc (.cells #[.float .f64 a, .float .f64 b] 26)).alloc (.cells #[.float .f64 0, .float .f64 0] 26)) := by
    repeat first | exact Below.refl _ _ | refine Below.alloc ?_ (by simp; try omega) _
  go_enter Try.func18, Try.ntmps18
  go_wp2_with (first | (go_at_call 26; refine (toC_any _ _ _).mono ?_; rintro e w1 ⟨rfl, hb1⟩; have g1 := g0.call hb1; have hW1 := bstep hW hb1; clear g0 hW hb1))
  go_loopw [1, 5, 6] (fun i r s wr => ∃ k R1 R2 S1 S2 : Nat, i = .int .i64 k ∧ r = .complex .f64 R1 R2 ∧ s = .complex .f64 S1 S2 ∧ k ≤ 1000 ∧ Hid (cpw2 k (cn R1) (cn R2) (cn S1) (cn S2) = cpw2 n (some 4607182418800017408) (some 0) (cn a) (cn b)) ∧ Hid (Below w1.heap.size w1 wr)) (fun i _ _ _ => (intOf i).toNat)
  case atStart => exact ⟨n, _, _, _, _, rfl, rfl, rfl, hn, by show cpw2 _ _ _ _ _ = _; rw [cn_one, cn_zero], Below.refl _ _⟩
  case round =>
    obtain ⟨k, R1, R2, S1, S2, rfl, rfl, rfl, hk, hrel, hb⟩ := hrel
    by_cases h0 : 0 < k
    · by_cases h1 : k % 2 = 1
      · by_cases h2 : 2 ≤ k
        · go_wp2_with (first | (go_at_call 25; with_reducible refine (times_any R1 R2 S1 S2 _).mono ?_; rintro e w2 ⟨x, y, rfl, ex, ey, hb2⟩) | (go_at_call 25; with_reducible refine (times_any S1 S2 S1 S2 _).mono ?_; rintro e w3 ⟨x', y', rfl, ex', ey', hb3⟩))
          go_roundw
          case rel => exact ⟨k / 2, x, y, x', y', by go_num, rfl, rfl, by omega, by show cpw2 _ _ _ _ _ = _; rw [← hrel.out, cpw2_odd h1, ex, ey, ex', ey'], bstep (bstep hb.out hb2) hb3⟩
          case measure => simp [intOf]; omega
        · obtain rfl : k = 1 := by omega
          go_wp2_with (first | (go_at_call 25; with_reducible refine (times_any R1 R2 S1 S2 _).mono ?_; rintro e w2 ⟨x, y, rfl, ex, ey, hb2⟩))
          go_roundw
          case rel => exact ⟨0, x, y, S1, S2, by go_num, rfl, rfl, by omega, by show cpw2 _ _ _ _ _ = _; rw [← hrel.out, cpw2_one, cpw2_zero, ex, ey], bstep hb.out hb2⟩
          case measure => simp [intOf]
      · have h2 : 2 ≤ k := by omega
        go_wp2_with (first | (go_at_call 25; with_reducible refine (times_any S1 S2 S1 S2 _).mono ?_; rintro e w3 ⟨x', y', rfl, ex', ey', hb3⟩))
        go_roundw
        case rel => exact ⟨k / 2, R1, R2, x', y', by go_num, rfl, rfl, by omega, by show cpw2 _ _ _ _ _ = _; rw [← hrel.out, cpw2_even h0 (by omega), ex', ey'], bstep hb.out hb3⟩
        case measure => simp [intOf]; omega
    · obtain rfl : k = 0 := by omega
      go_wp2_with (first | (go_at_call 24; refine (toP_any _ _ _).mono ?_; rintro e w4 ⟨rfl, hb4⟩; obtain ⟨c0, c1, z0, z1⟩ := (g1.call hb.out).call hb4))
      refine bodyPost_ret (v := Pv R1 R2) (by simp [results, Try.results18, go_sem, c0, c1]) rfl ⟨_, _, rfl, by rw [← hrel.out, cpw2_zero], ?_⟩
      exact ((bstep (bstep hW1 hb.out) hb4).setCell (Nat.le_succ _) _).setCell (Nat.le_succ _) _

set_option maxHeartbeats 2000000 in
theorem iPowP_no (a b : Nat) (n : Int) (hn : ¬ (0 ≤ n ∧ n ≤ 1000)) (w : World) : Calls Try.prog 18 #[Pv a b, .int .i64 n] w fun e w' => e = .returned (Pv 0 0) ∧ Below w.heap.size w w' := by
  have hST := rStore
  by_cases h : n < 0
  all_goals
    go_enter Try.func18, Try.ntmps18
    go_wp2
    refine bodyPost_ret (v := Pv 0 0) (by simp [results, Try.results18, go_sem]) rfl ⟨rfl, ?_⟩
    repeat first | exact Below.refl _ _ | refine Below.setCell ?_ (by simp; try omega) _ | refine Below.alloc ?_ (by simp; try omega) _
end Go.Proofs.Ytbogkkkfbimacaa
