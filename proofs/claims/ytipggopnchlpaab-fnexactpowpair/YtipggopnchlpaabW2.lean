/- The model's PowPair, and the law's walk. -/
import Derived.Test.YtipggopnchlpaabW1
namespace Go.Proofs.Ytipggopnchlpaab
open Go.RowKit

theorem le_2 (n : Nat) : n ≤ n + 1 + 1 := by omega
theorem le_3 (n : Nat) : n ≤ n + 1 + 1 + 1 := by omega

set_option maxHeartbeats 2000000 in
theorem sPowP_any (a b n : Nat) (hn : n ≤ 1000) (w : World) : Calls Try.prog 8 #[Pv a b, .int .i64 n] w fun e w' => ∃ x y, e = .returned (Pv x y) ∧ (cn x, cn y) = cpw2 n (some 4607182418800017408) (some 0) (cn a) (cn b) ∧ Below w.heap.size w w' := by
  have hST := rStore
  have hin := fun W => in_any n W
  rw [decide_eq_true (show (0 : Int) ≤ n ∧ (n : Int) ≤ 1000 by omega)] at hin
  go_enter Try.func8, Try.ntmps8
  go_wp2_with (go_at_call 12; refine (hin _).mono ?_; rintro e w1 ⟨rfl, hw⟩; obtain rfl := hw.symm)
  go_loopw [1] (fun i wr => ∃ k R1 R2 S1 S2 : Nat, i = .int .i64 k ∧ k ≤ 1000 ∧ Rb wr (w.heap.size + 1) 0 0 ∧ Rb wr (w.heap.size + 1 + 1) R1 R2 ∧ Rb wr (w.heap.size + 1 + 1 + 1) S1 S2 ∧ Hid (cpw2 k (cn R1) (cn R2) (cn S1) (cn S2) = cpw2 n (some 4607182418800017408) (some 0) (cn a) (cn b)) ∧ Hid (Below w.heap.size w wr)) (fun i _ => (intOf i).toNat)
  case atStart =>
    refine ⟨n, 4607182418800017408, 0, a, b, rfl, hn, ((Rb.new _ 0 0 26 (by simp)).alloc _).alloc _, (Rb.new _ _ _ 26 (by simp)).alloc _, Rb.new _ _ _ 26 (by simp), by show cpw2 _ _ _ _ _ = _; rw [cn_one, cn_zero], ?_⟩
    show Below _ _ _
    repeat first | exact Below.refl _ _ | refine Below.alloc ?_ (by simp; try omega) _
  case round =>
    obtain ⟨k, R1, R2, S1, S2, rfl, hk, t0, r0, s0, hrel, hb⟩ := hrel
    obtain ⟨r00, r01, r02, r03⟩ := id r0
    obtain ⟨s00, s01, s02, s03⟩ := id s0
    by_cases h0 : 0 < k
    · by_cases h1 : k % 2 = 1
      · by_cases h2 : 2 ≤ k
        · go_wp2_with (first | (go_at_call 13; with_reducible refine (sMul_any R1 R2 S1 S2 _).mono ?_; rintro e w2 ⟨x, y, rfl, ex, ey, hb2⟩; have t1 := ((t0.call hb2).other (p := ⟨w.heap.size + 1 + 1, 0, none⟩) (by simp; try omega) (.float .f64 x)).other (p := ⟨w.heap.size + 1 + 1, 1, none⟩) (by simp; try omega) (.float .f64 y); have s1 := ((s0.call hb2).other (p := ⟨w.heap.size + 1 + 1, 0, none⟩) (by simp; try omega) (.float .f64 x)).other (p := ⟨w.heap.size + 1 + 1, 1, none⟩) (by simp; try omega) (.float .f64 y); have r1 := (r0.call hb2).put x y; have hB1 := ((bstep hb.out hb2).setCell (p := ⟨w.heap.size + 1 + 1, 0, none⟩) (le_2 _) (.float .f64 x)).setCell (p := ⟨w.heap.size + 1 + 1, 1, none⟩) (le_2 _) (.float .f64 y); obtain ⟨a0, a1, a2, a3⟩ := r0.call hb2; obtain ⟨d0, d1, d2, d3⟩ := s0.call hb2) | (go_at_call 13; with_reducible refine (sMul_any S1 S2 S1 S2 _).mono ?_; rintro e w3 ⟨x', y', rfl, ex', ey', hb3⟩; have t2 := ((t1.call hb3).other (p := ⟨w.heap.size + 1 + 1 + 1, 0, none⟩) (by simp; try omega) (.float .f64 x')).other (p := ⟨w.heap.size + 1 + 1 + 1, 1, none⟩) (by simp; try omega) (.float .f64 y'); have r2 := ((r1.call hb3).other (p := ⟨w.heap.size + 1 + 1 + 1, 0, none⟩) (by simp; try omega) (.float .f64 x')).other (p := ⟨w.heap.size + 1 + 1 + 1, 1, none⟩) (by simp; try omega) (.float .f64 y'); have s2 := (s1.call hb3).put x' y'; have hB2 := ((bstep hB1 hb3).setCell (p := ⟨w.heap.size + 1 + 1 + 1, 0, none⟩) (le_3 _) (.float .f64 x')).setCell (p := ⟨w.heap.size + 1 + 1 + 1, 1, none⟩) (le_3 _) (.float .f64 y'); obtain ⟨b0, b1, b2, b3⟩ := s1.call hb3))
          go_roundw
          case rel => exact ⟨k / 2, x, y, x', y', by go_num, by omega, t2, r2, s2, by show cpw2 _ _ _ _ _ = _; rw [← hrel.out, cpw2_odd h1, ex, ey, ex', ey'], hB2⟩
          case measure => simp [intOf]; omega
        · obtain rfl : k = 1 := by omega
          go_wp2_with (first | (go_at_call 13; with_reducible refine (sMul_any R1 R2 S1 S2 _).mono ?_; rintro e w2 ⟨x, y, rfl, ex, ey, hb2⟩; have t1 := ((t0.call hb2).other (p := ⟨w.heap.size + 1 + 1, 0, none⟩) (by simp; try omega) (.float .f64 x)).other (p := ⟨w.heap.size + 1 + 1, 1, none⟩) (by simp; try omega) (.float .f64 y); have s1 := ((s0.call hb2).other (p := ⟨w.heap.size + 1 + 1, 0, none⟩) (by simp; try omega) (.float .f64 x)).other (p := ⟨w.heap.size + 1 + 1, 1, none⟩) (by simp; try omega) (.float .f64 y); have r1 := (r0.call hb2).put x y; have hB1 := ((bstep hb.out hb2).setCell (p := ⟨w.heap.size + 1 + 1, 0, none⟩) (le_2 _) (.float .f64 x)).setCell (p := ⟨w.heap.size + 1 + 1, 1, none⟩) (le_2 _) (.float .f64 y); obtain ⟨a0, a1, a2, a3⟩ := r0.call hb2))
          go_roundw
          case rel => exact ⟨0, x, y, S1, S2, by go_num, by omega, t1, r1, s1, by show cpw2 _ _ _ _ _ = _; rw [← hrel.out, cpw2_one, cpw2_zero, ex, ey], hB1⟩
          case measure => simp [intOf]
      · have h2 : 2 ≤ k := by omega
        go_wp2_with (first | (go_at_call 13; with_reducible refine (sMul_any S1 S2 S1 S2 _).mono ?_; rintro e w3 ⟨x', y', rfl, ex', ey', hb3⟩; have t2 := ((t0.call hb3).other (p := ⟨w.heap.size + 1 + 1 + 1, 0, none⟩) (by simp; try omega) (.float .f64 x')).other (p := ⟨w.heap.size + 1 + 1 + 1, 1, none⟩) (by simp; try omega) (.float .f64 y'); have r2 := ((r0.call hb3).other (p := ⟨w.heap.size + 1 + 1 + 1, 0, none⟩) (by simp; try omega) (.float .f64 x')).other (p := ⟨w.heap.size + 1 + 1 + 1, 1, none⟩) (by simp; try omega) (.float .f64 y'); have s2 := (s0.call hb3).put x' y'; have hB2 := ((bstep hb.out hb3).setCell (p := ⟨w.heap.size + 1 + 1 + 1, 0, none⟩) (le_3 _) (.float .f64 x')).setCell (p := ⟨w.heap.size + 1 + 1 + 1, 1, none⟩) (le_3 _) (.float .f64 y'); obtain ⟨b0, b1, b2, b3⟩ := s0.call hb3))
        go_roundw
        case rel => exact ⟨k / 2, R1, R2, x', y', by go_num, by omega, t2, r2, s2, by show cpw2 _ _ _ _ _ = _; rw [← hrel.out, cpw2_even h0 (by omega), ex', ey'], hB2⟩
        case measure => simp [intOf]; omega
    · obtain rfl : k = 0 := by omega
      obtain ⟨t00, t01, t02, t03⟩ := id t0
      go_wp2
      refine bodyPost_ret (v := Pv R1 R2) (by simp [results, Try.results8, go_sem, t00, t01]) rfl ⟨_, _, rfl, by rw [← hrel.out, cpw2_zero], ?_⟩
      exact (hb.out.setCell (Nat.le_succ _) _).setCell (Nat.le_succ _) _

set_option maxHeartbeats 2000000 in
theorem sPowP_no (a b : Nat) (n : Int) (hn : ¬ (0 ≤ n ∧ n ≤ 1000)) (w : World) : Calls Try.prog 8 #[Pv a b, .int .i64 n] w fun e w' => e = .returned (Pv 0 0) ∧ Below w.heap.size w w' := by
  have hST := rStore
  have hin := fun W => in_any n W
  rw [decide_eq_false hn] at hin
  clear hn
  go_enter Try.func8, Try.ntmps8
  go_wp2_with (go_at_call 12; refine (hin _).mono ?_; rintro e w1 ⟨rfl, hw⟩; obtain rfl := hw.symm)
  refine bodyPost_ret (v := Pv 0 0) (by simp [results, Try.results8, go_sem]) rfl ⟨rfl, ?_⟩
  repeat first | exact Below.refl _ _ | refine Below.setCell ?_ (by simp; try omega) _ | refine Below.alloc ?_ (by simp; try omega) _

set_option maxHeartbeats 4000000 in
theorem walk_powp_of (a b : Nat) (n : Int) (R : Nat → Nat → Prop) (hR : ∀ x y x' y', R x y → R x' y' → cn x = cn x' ∧ cn y = cn y') (w : World)
    (hs : ∀ W, Calls Try.prog 8 #[Pv a b, .int .i64 n] W fun e w' => ∃ x y, e = .returned (Pv x y) ∧ R x y ∧ Below W.heap.size W w')
    (hi : ∀ W, Calls Try.prog 9 #[Pv a b, .int .i64 n] W fun e w' => ∃ x y, e = .returned (Pv x y) ∧ R x y ∧ Below W.heap.size W w') :
    Calls Try.prog 4 #[Pv a b, .int .i64 n] w fun e w' => e = .returned (.bool true) ∧ Below w.heap.size w w' := by
  have hST := rStore
  have f0 := Rb.new w a b 24 rfl
  have HW := below_one w (.cells #[.float .f64 a, .float .f64 b] 24)
  go_enter Try.func4, Try.ntmps4
  go_wp2_with (first
    | (go_at_call 6; (fail_if_success have := m1); refine (toPair_any _ _ _).mono ?_; rintro e w1 ⟨rfl, hb⟩; have HB := bstep HW hb; have f1 := f0.call hb)
    | (go_at_call 8; refine (hs _).mono ?_; rintro e w2 ⟨x, y, rfl, hxy, hb2⟩; have HB2 := (bstep HB hb2).alloc (bstep HB hb2).size (.cells #[.float .f64 x, .float .f64 y] 26); have m1 := Rb.new w2 x y 26 rfl; have f2 := (f1.call hb2).alloc (.cells #[.float .f64 x, .float .f64 y] 26); obtain ⟨e0, e1, _, _⟩ := f2)
    | (go_at_call 6; refine (toPair_any _ _ _).mono ?_; rintro e w3 ⟨rfl, hb3⟩; have HB3 := bstep HB2 hb3; have m2 := m1.call hb3)
    | (go_at_call 9; refine (hi _).mono ?_; rintro e w4 ⟨x', y', rfl, hxy', hb4⟩; have HB4 := (bstep HB3 hb4).alloc (bstep HB3 hb4).size (.cells #[.float .f64 x', .float .f64 y'] 26); obtain ⟨d0, d1, _, _⟩ := (m2.call hb4).alloc (.cells #[.float .f64 x', .float .f64 y'] 26))
    | (go_at_call 10; refine (eqPair_yes _ _ _ _ _ (hR _ _ _ _ hxy' hxy).1 (hR _ _ _ _ hxy' hxy).2).mono ?_; rintro e w5 ⟨rfl, hb5⟩))
  go_ret
  exact ⟨rfl, bstep HB4 hb5⟩

theorem walk_powp (a b : Nat) (n : Int) (w : World) : Calls Try.prog 4 #[Pv a b, .int .i64 n] w fun e w' => e = .returned (.bool true) ∧ Below w.heap.size w w' := by
  by_cases h : 0 ≤ n ∧ n ≤ 1000
  · obtain ⟨k, rfl⟩ : ∃ k : Nat, n = k := ⟨n.toNat, by omega⟩
    refine walk_powp_of a b k (fun x y => (cn x, cn y) = cpw2 k (some 4607182418800017408) (some 0) (cn a) (cn b)) ?_ w (fun W => sPowP_any a b k (by omega) W) (fun W => iPowP_any a b k (by omega) W)
    intro x y x' y' h1 h2
    have := h1.trans h2.symm
    exact ⟨congrArg Prod.fst this, congrArg Prod.snd this⟩
  · refine walk_powp_of a b n (fun x y => x = 0 ∧ y = 0) ?_ w (fun W => (sPowP_no a b n h W).mono fun e w' ⟨he, hb⟩ => ⟨0, 0, he, ⟨rfl, rfl⟩, hb⟩) (fun W => (iPowP_no a b n h W).mono fun e w' ⟨he, hb⟩ => ⟨0, 0, he, ⟨rfl, rfl⟩, hb⟩)
    rintro x y x' y' ⟨rfl, rfl⟩ ⟨rfl, rfl⟩
    exact ⟨rfl, rfl⟩
end Go.Proofs.Ytipggopnchlpaab
