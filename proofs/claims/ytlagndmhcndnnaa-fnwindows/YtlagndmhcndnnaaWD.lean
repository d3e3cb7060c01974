/- FnWindows. -/
import Derived.Test.YtlagndmhcndnnaaWC
import Derived.Test.YtlagndmhcndnnaaWA
import Derived.Test.YtlagndmhcndnnaaD4
import Derived.BigQuiet
namespace Go.Proofs.Ytlagndmhcndnnaa
open Go.RowKit

set_option maxHeartbeats 1000000 in
theorem dtaper_x {w : World} {a : Option Addr} {len cap : Nat} (hr : Row w a len) (hl : len ≤ 1048576) :
    Calls Try.prog 11 #[.slice a len cap] w fun e w' => ∃ kd u n ys, e = .returned (.tuple #[.int .i64 kd, u]) ∧ n ≤ 513 ∧ Il w' u n ys ∧ Below w.heap.size w w' := by
  have HR : Hid (Row w a len) := hr
  clear hr
  obtain ⟨c, hcd⟩ : ∃ c, w.heap.size = c := ⟨_, rfl⟩
  have HN : Hid (Calls Try.prog 20 #[.slice a len cap] w fun e w' => e = .returned (.pointer (some ⟨c, 0, none⟩)) ∧ Cu w' c a len cap ∧ Below w.heap.size w w') := by have := new_x (cap := cap) HR.out (by omega); rw [← hcd]; exact this
  go_enter Try.func11, Try.ntmps11
  go_wp2_with (first
    | (go_at_call 20; refine HN.out.mono ?_; rintro e w1 ⟨rfl, hc, hb⟩; have HC1 : Hid (Cu w1 c a len cap) := hc; have B1 : Hid (Below w.heap.size w w1) := hb; clear hc hb)
    | (go_at_call 21; refine (below_x HC1.out 24).mono ?_; rintro e w2 ⟨x2, h20, h21, h22, rfl, hc2, hk2⟩; have h23 := h22 (by decide); have HC2 : Hid (Cu w2 c a len cap) := hc2; have K2 : Hid (Keep c w1 w2) := hk2; clear hc2 hk2 h22)
    | (go_at_call 23; refine (size_x a len cap 40 hl).mono ?_; rintro e w' ⟨x, rfl, hx1, _, hx2, hw⟩; have hx3 := hx2 (by omega); obtain rfl := hw.symm; clear hx2)
    | (go_at_call 22; refine (dany_x HC2.out x (by omega)).mono ?_; rintro e w3 ⟨u3, n3, ys3, rfl, hn3, hil, _, hk⟩; have HI3 : Hid (Il w3 u3 n3 ys3) := hil; have K3 : Hid (Keep c w1 w3) := K2.out.trans hk; clear hil hk))
  go_ret2
  exact ⟨_, _, _, _, rfl, hn3, HI3.out, Below.keep B1.out K3.out (Nat.le_of_eq hcd)⟩

/-- No sample grows. -/
theorem tpv_abs {kd : Int} {n k : Nat} {xs : Nat → Int} (hg : GP kd n xs) (hk : k < n) : (if tpv kd n xs k < 0 then -tpv kd n xs k else tpv kd n xs k) ≤ (if xs k < 0 then -xs k else xs k) := by
  have hw := wnv_bounds (kd := kd) (by have := hg.1; omega) hk hg.2.1
  have hx := hg.2.2 k hk
  have hp := prod_bounds hx hw
  unfold tpv
  obtain ⟨W, hW⟩ : ∃ W, wnv kd n k = W := ⟨_, rfl⟩
  rw [hW] at hw hp ⊢
  obtain ⟨x, hX⟩ : ∃ x, xs k = x := ⟨_, rfl⟩
  rw [hX] at hx hp ⊢
  have hb : (1 : Int) ≤ 1073741824 ∧ (1073741824 : Int) ≤ 4000000000000000000 := by decide
  have ha : -4000000000000000000 ≤ x * W ∧ x * W ≤ 4000000000000000000 := by omega
  by_cases h0 : x < 0
  · have h1 : x * W ≤ 0 := Int.mul_nonpos_of_nonpos_of_nonneg (by omega) hw.1
    have h2 : x * 1073741824 ≤ x * W := by
      exact Int.mul_le_mul_of_nonpos_left (show x ≤ 0 by omega) hw.2
    have h3 := rdV_le (M := 0) hb ha (by omega)
    have h4 := rdV_ge (M := x) hb ha h2
    rw [if_pos h0]
    split <;> omega
  · have h1 : 0 ≤ x * W := Int.mul_nonneg (by omega) hw.1
    have h2 : x * W ≤ x * 1073741824 := Int.mul_le_mul_of_nonneg_left hw.2 (by omega)
    have h3 := rdV_ge (M := 0) hb ha (by omega)
    have h4 := rdV_le (M := x) hb ha h2
    rw [if_neg h0, if_neg (by omega)]
    exact h4

theorem tpv_small {kd : Int} {n k : Nat} {xs : Nat → Int} (hg : GP kd n xs) (hk : k < n) : -1000000000000 ≤ tpv kd n xs k ∧ tpv kd n xs k ≤ 1000000000000 := by
  have h := tpv_abs hg hk
  have hx := hg.2.2 k hk
  revert h
  split <;> split <;> omega

/-- The two sizes that are held against each other. -/
theorem abs_two {kd : Int} {n k : Nat} {xs : Nat → Int} (hg : GP kd n xs) (hk : k < n) : ∃ A B : Int, (∀ W, Calls Try.prog 10 #[.int .i64 (tpv kd n xs k)] W fun e w' => e = .returned (.int .i64 A) ∧ w' = W) ∧ (∀ W, Calls Try.prog 10 #[.int .i64 (xs k)] W fun e w' => e = .returned (.int .i64 B) ∧ w' = W) ∧ A ≤ B :=
  ⟨_, _, fun W => abs_any _ (tpv_small hg hk) W, fun W => abs_any _ (by have := hg.2.2 k hk; omega) W, tpv_abs hg hk⟩

theorem flat_yes (w : World) : Calls Try.prog 14 #[.int .i64 1, .int .i64 2] w fun e w' => Pst w w' e 2 (fun _ => 1073741824) true := by
  have h := iWin_good (kd := 1) (n := 2) ⟨by omega, by omega, by omega⟩ w
  refine h.mono fun e w' h => ?_
  obtain ⟨u, he, ho, hb⟩ := h
  exact ⟨u, he, by rw [← ils_congr (f := wnv 1 2) (fun k _ => wnv_1 2 k)]; exact ho, hb⟩

set_option maxRecDepth 100000 in
set_option maxHeartbeats 8000000 in
theorem walk_windows {w : World} {a : Option Addr} {n cap : Nat} (hr : Row w a n) (hn : n ≤ 9223372036854775807) : Calls Try.prog 4 #[.slice a n cap] w fun e w' => e = .returned (.bool true) ∧ Below w.heap.size w w' := by
  have hbig := fun W => big_x (w := W) a n cap hn
  by_cases hb : 1048576 < (n : Int)
  · rw [decide_eq_true hb] at hbig
    clear hr hb
    go_enter Try.func4, Try.ntmps4
    go_wp2_with (go_at_call 5; refine (hbig _).mono ?_; rintro e w' ⟨rfl, hw⟩; obtain rfl := hw.symm)
    go_ret
    exact ⟨rfl, Below.refl _ _⟩
  rw [decide_eq_false hb] at hbig
  have hn1 : n ≤ 1048576 := by omega
  have HR : Hid (Row w a n) := hr
  have hdraw := dtaper_x (cap := cap) hr hn1
  clear hr hb
  go_enter Try.func4, Try.ntmps4
  go_upto_region 4 with (first | (go_at_call 5; refine (hbig _).mono ?_; rintro e w' ⟨rfl, hw⟩; obtain rfl := hw.symm) | (go_at_call 11; refine hdraw.mono ?_; rintro e w1 ⟨kd, u, m, ys, rfl, hm, hil, hb1⟩; have B1 : Hid (Below w.heap.size w w1) := hb1; have HU : Hid (Il w1 u m ys) := hil; obtain ⟨au, cu, rfl, hcu, hcl⟩ := hil; clear hcl hb1))
  clear hdraw hbig
  by_cases hk : 1 ≤ kd ∧ kd ≤ 4
  · by_cases hg : GP kd m ys
    · skip
      have HI : Hid (∀ W u, Il W u m ys → Calls Try.prog 12 #[.int .i64 kd, u] W fun e w' => Pst W w' e m (tpv kd m ys) true) := fun W u hu => iTap_good hg W hu
      have HS : Hid (∀ W u, Il W u m ys → Calls Try.prog 13 #[.int .i64 kd, u] W fun e w' => Pst W w' e m (tpv kd m ys) true) := fun W u hu => sTap_good hu hg
      have HW : Hid (∀ v0 : Nat, v0 < 256 → ∀ W, Calls Try.prog 14 #[.int .i64 kd, .int .i64 (1 + (v0 : Int))] W fun e w' => Pst W w' e (1 + v0) (wnv kd (1 + v0)) true) := fun v0 h W => by have := iWin_good (kd := kd) (n := 1 + v0) ⟨hk, by omega, by omega⟩ W; rw [show ((1 + v0 : Nat) : Int) = 1 + (v0 : Int) by omega] at this; exact this
      have HWB : Hid (∀ (v0 k : Nat), v0 < 256 → k < 1 + v0 → 0 ≤ wnv kd (1 + v0) k ∧ wnv kd (1 + v0) k ≤ 1073741824) := fun v0 k h1 h2 => wnv_bounds (by omega) h2 (by omega)
      have HG : Hid (GP kd m ys) := hg
      clear hg
      clear hk
      go_upto_region 9 with (first | (go_at_call 12; refine (HI.out _ _ HU.out).mono ?_; rintro e w2 ⟨o2, rfl, ho2, hb2⟩; have IO2 : Hid (Il w2 o2 m (tpv kd m ys)) := il_of_own ho2; obtain ⟨ao2, co2, rfl, hco2, hcl2⟩ := il_of_own ho2; have HU2 : Hid (Il w2 (.slice au m cu) m ys) := HU.out.below hb2; have B2 : Hid (Below w.heap.size w w2) := bstep B1.out hb2; clear ho2 hb2 hcl2) | (go_at_call 13; refine (HS.out _ _ HU2.out).mono ?_; rintro e w3 ⟨o3, rfl, _, hb3⟩; have IO3 : Hid (Il w3 (.slice ao2 m co2) m (tpv kd m ys)) := IO2.out.below hb3; have HU3 : Hid (Il w3 (.slice au m cu) m ys) := HU2.out.below hb3; have B3 : Hid (Below w.heap.size w w3) := bstep B2.out hb3; clear hb3) | (go_at_call 6; refine (bt_any (cap := cap) (HR.out.below B3.out) hn1 0 (by omega)).mono ?_; rintro e w' ⟨v0, rfl, hv0, hw⟩; obtain rfl := hw.symm) | (go_at_call 14; refine (HW.out v0 hv0 _).mono ?_; rintro e w4 ⟨q4, rfl, ho4, hb4⟩; have IQ4 : Hid (Il w4 q4 (1 + v0) (wnv kd (1 + v0))) := il_of_own ho4; obtain ⟨aq4, cq4, rfl, hcq4, hcl4⟩ := il_of_own ho4; have IO4 : Hid (Il w4 (.slice ao2 m co2) m (tpv kd m ys)) := IO3.out.below hb4; have HU4 : Hid (Il w4 (.slice au m cu) m ys) := HU3.out.below hb4; have B4 : Hid (Below w.heap.size w w4) := bstep B3.out hb4; clear ho4 hb4 hcl4))
      go_wp2
      go_loopw [11] (fun i wr => ∃ k : Nat, i = .int .i64 k ∧ k ≤ (1 + v0) ∧ wr = w4) (fun i _ => (1 + v0) - (intOf i).toNat)
      case atStart => exact ⟨0, rfl, by omega, rfl⟩
      case round =>
        obtain ⟨k, rfl, hk1, hwr⟩ := hrel
        obtain rfl := hwr.symm
        by_cases h1 : k < (1 + v0)
        · obtain ⟨_, _, he, _, hcl⟩ := IQ4.out
          obtain ⟨rfl, -, rfl⟩ := Value.slice.inj he
          obtain ⟨b, off, rfl, hlt, hcell⟩ := hcl (by omega)
          have c := hcell k h1
          have bw := HWB.out v0 k hv0 h1
          generalize wnv kd (1 + v0) k = V at c bw
          clear hcell hcl he
          go_wp2
          go_roundw
          case rel => exact ⟨k + 1, by go_num, by omega, by trivial⟩
          case measure => simp [intOf]; omega
        · obtain rfl : k = (1 + v0) := by omega
          clear h1 hk1
          go_wp2
          go_loopw [12] (fun i wr => ∃ j : Nat, i = .int .i64 j ∧ j ≤ m ∧ Hid (Below w4.heap.size w4 wr)) (fun i _ => m - (intOf i).toNat)
          case atStart => exact ⟨0, rfl, by omega, Below.refl _ _⟩
          case round =>
            obtain ⟨j, rfl, hj, hrel⟩ := hrel
            by_cases h2 : j < m
            · obtain ⟨_, _, he, _, hcl⟩ := IO4.out
              obtain ⟨rfl, -, rfl⟩ := Value.slice.inj he
              obtain ⟨b, off, rfl, hlt, hcell⟩ := hcl (by omega)
              have c := (hrel.out.cell (p := ⟨b, off + j, none⟩) hlt).trans (hcell j h2)
              clear hcell hcl he hlt
              obtain ⟨_, _, he, _, hcl⟩ := HU4.out
              obtain ⟨rfl, -, rfl⟩ := Value.slice.inj he
              obtain ⟨b2, off2, rfl, hlt, hcell⟩ := hcl (by omega)
              have c2 := (hrel.out.cell (p := ⟨b2, off2 + j, none⟩) hlt).trans (hcell j h2)
              clear hcell hcl he hlt
              obtain ⟨A, B, hA, hB, hAB⟩ := abs_two HG.out h2
              generalize tpv kd m ys j = X1 at c hA
              generalize ys j = X2 at c2 hB
              go_upto_region 17 with fail
              go_quiet ((go_at_call 10; first | exact Calls.quiet_of_same (hA _) | exact Calls.quiet_of_same (hB _)))
              go_wp2
              go_roundw
              case rel => exact ⟨j + 1, by go_num, by omega, below_drewN hrel.out _⟩
              case measure => simp [intOf]; omega
            · obtain rfl : j = m := by omega
              have HF := flat_yes
              go_wp2_with (first | (go_at_call 14; refine (HF _).mono ?_; rintro e w5 ⟨f5, rfl, ho5, hb5⟩; obtain ⟨af, cf, rfl, hcf, hcl⟩ := il_of_own ho5; obtain ⟨b, off, rfl, hlt, hcell⟩ := hcl (by omega); have c : w5.cell? ⟨b, off, none⟩ = some (.int .i64 1073741824) := hcell 0 (by omega); have B5 : Hid (Below w.heap.size w w5) := bstep (bstep B4.out hrel.out) hb5; clear hcell hcl ho5 hb5))
              go_ret
              exact ⟨rfl, B5.out⟩
    · skip
      have HI : Hid (∀ W u, Il W u m ys → Calls Try.prog 12 #[.int .i64 kd, u] W fun e w' => Pst W w' e 0 (fun _ => 0) false) := fun W u hu => (iTap_bad hu (by omega) hg).mono fun e w' h => h _
      have HS : Hid (∀ W u, Il W u m ys → Calls Try.prog 13 #[.int .i64 kd, u] W fun e w' => Pst W w' e 0 (fun _ => 0) false) := fun W u hu => (sTap_bad hu (by omega) hg).mono fun e w' h => h _
      have HW : Hid (∀ v0 : Nat, v0 < 256 → ∀ W, Calls Try.prog 14 #[.int .i64 kd, .int .i64 (1 + (v0 : Int))] W fun e w' => Pst W w' e (1 + v0) (wnv kd (1 + v0)) true) := fun v0 h W => by have := iWin_good (kd := kd) (n := 1 + v0) ⟨hk, by omega, by omega⟩ W; rw [show ((1 + v0 : Nat) : Int) = 1 + (v0 : Int) by omega] at this; exact this
      have HWB : Hid (∀ (v0 k : Nat), v0 < 256 → k < 1 + v0 → 0 ≤ wnv kd (1 + v0) k ∧ wnv kd (1 + v0) k ≤ 1073741824) := fun v0 k h1 h2 => wnv_bounds (by omega) h2 (by omega)
      clear hg
      clear hk
      go_upto_region 9 with (first | (go_at_call 12; refine (HI.out _ _ HU.out).mono ?_; rintro e w2 ⟨o2, rfl, ho2, hb2⟩; have IO2 : Hid (Il w2 o2 0 (fun _ => 0)) := il_of_own ho2; obtain ⟨ao2, co2, rfl, hco2, hcl2⟩ := il_of_own ho2; have HU2 : Hid (Il w2 (.slice au m cu) m ys) := HU.out.below hb2; have B2 : Hid (Below w.heap.size w w2) := bstep B1.out hb2; clear ho2 hb2 hcl2) | (go_at_call 13; refine (HS.out _ _ HU2.out).mono ?_; rintro e w3 ⟨o3, rfl, _, hb3⟩; have IO3 : Hid (Il w3 (.slice ao2 0 co2) 0 (fun _ => 0)) := IO2.out.below hb3; have HU3 : Hid (Il w3 (.slice au m cu) m ys) := HU2.out.below hb3; have B3 : Hid (Below w.heap.size w w3) := bstep B2.out hb3; clear hb3) | (go_at_call 6; refine (bt_any (cap := cap) (HR.out.below B3.out) hn1 0 (by omega)).mono ?_; rintro e w' ⟨v0, rfl, hv0, hw⟩; obtain rfl := hw.symm) | (go_at_call 14; refine (HW.out v0 hv0 _).mono ?_; rintro e w4 ⟨q4, rfl, ho4, hb4⟩; have IQ4 : Hid (Il w4 q4 (1 + v0) (wnv kd (1 + v0))) := il_of_own ho4; obtain ⟨aq4, cq4, rfl, hcq4, hcl4⟩ := il_of_own ho4; have IO4 : Hid (Il w4 (.slice ao2 0 co2) 0 (fun _ => 0)) := IO3.out.below hb4; have HU4 : Hid (Il w4 (.slice au m cu) m ys) := HU3.out.below hb4; have B4 : Hid (Below w.heap.size w w4) := bstep B3.out hb4; clear ho4 hb4 hcl4))
      go_wp2
      go_loopw [11] (fun i wr => ∃ k : Nat, i = .int .i64 k ∧ k ≤ (1 + v0) ∧ wr = w4) (fun i _ => (1 + v0) - (intOf i).toNat)
      case atStart => exact ⟨0, rfl, by omega, rfl⟩
      case round =>
        obtain ⟨k, rfl, hk1, hwr⟩ := hrel
        obtain rfl := hwr.symm
        by_cases h1 : k < (1 + v0)
        · obtain ⟨_, _, he, _, hcl⟩ := IQ4.out
          obtain ⟨rfl, -, rfl⟩ := Value.slice.inj he
          obtain ⟨b, off, rfl, hlt, hcell⟩ := hcl (by omega)
          have c := hcell k h1
          have bw := HWB.out v0 k hv0 h1
          generalize wnv kd (1 + v0) k = V at c bw
          clear hcell hcl he
          go_wp2
          go_roundw
          case rel => exact ⟨k + 1, by go_num, by omega, by trivial⟩
          case measure => simp [intOf]; omega
        · obtain rfl : k = (1 + v0) := by omega
          clear h1 hk1
          go_wp2
          go_loopw [12] (fun i wr => ∃ j : Nat, i = .int .i64 j ∧ j ≤ 0 ∧ Hid (Below w4.heap.size w4 wr)) (fun i _ => 0 - (intOf i).toNat)
          case atStart => exact ⟨0, rfl, by omega, Below.refl _ _⟩
          case round =>
            obtain ⟨j, rfl, hj, hrel⟩ := hrel
            by_cases h2 : j < 0
            · omega
            · obtain rfl : j = 0 := by omega
              have HF := flat_yes
              go_wp2_with (first | (go_at_call 14; refine (HF _).mono ?_; rintro e w5 ⟨f5, rfl, ho5, hb5⟩; obtain ⟨af, cf, rfl, hcf, hcl⟩ := il_of_own ho5; obtain ⟨b, off, rfl, hlt, hcell⟩ := hcl (by omega); have c : w5.cell? ⟨b, off, none⟩ = some (.int .i64 1073741824) := hcell 0 (by omega); have B5 : Hid (Below w.heap.size w w5) := bstep (bstep B4.out hrel.out) hb5; clear hcell hcl ho5 hb5))
              go_ret
              exact ⟨rfl, B5.out⟩
  · have hg : ¬ GP kd m ys := fun h => hk h.1
    have HI : Hid (∀ W u, Il W u m ys → Calls Try.prog 12 #[.int .i64 kd, u] W fun e w' => Pst W w' e 0 (fun _ => 0) false) := fun W u hu => (iTap_bad hu (by omega) hg).mono fun e w' h => h _
    have HS : Hid (∀ W u, Il W u m ys → Calls Try.prog 13 #[.int .i64 kd, u] W fun e w' => Pst W w' e 0 (fun _ => 0) false) := fun W u hu => (sTap_bad hu (by omega) hg).mono fun e w' h => h _
    have HW : Hid (∀ v0 : Nat, v0 < 256 → ∀ W, Calls Try.prog 14 #[.int .i64 kd, .int .i64 (1 + (v0 : Int))] W fun e w' => Pst W w' e 0 (fun _ => 0) false) := fun v0 h W => (iWin_bad (fun h => hk h.1) W).mono fun e w' h => h _
    clear hg
    have hkk : kd < 1 ∨ 4 < kd := by omega
    clear hk
    go_upto_region 9 with (first | (go_at_call 12; refine (HI.out _ _ HU.out).mono ?_; rintro e w2 ⟨o2, rfl, ho2, hb2⟩; have IO2 : Hid (Il w2 o2 0 (fun _ => 0)) := il_of_own ho2; obtain ⟨ao2, co2, rfl, hco2, hcl2⟩ := il_of_own ho2; have HU2 : Hid (Il w2 (.slice au m cu) m ys) := HU.out.below hb2; have B2 : Hid (Below w.heap.size w w2) := bstep B1.out hb2; clear ho2 hb2 hcl2) | (go_at_call 13; refine (HS.out _ _ HU2.out).mono ?_; rintro e w3 ⟨o3, rfl, _, hb3⟩; have IO3 : Hid (Il w3 (.slice ao2 0 co2) 0 (fun _ => 0)) := IO2.out.below hb3; have HU3 : Hid (Il w3 (.slice au m cu) m ys) := HU2.out.below hb3; have B3 : Hid (Below w.heap.size w w3) := bstep B2.out hb3; clear hb3) | (go_at_call 6; refine (bt_any (cap := cap) (HR.out.below B3.out) hn1 0 (by omega)).mono ?_; rintro e w' ⟨v0, rfl, hv0, hw⟩; obtain rfl := hw.symm) | (go_at_call 14; refine (HW.out v0 hv0 _).mono ?_; rintro e w4 ⟨q4, rfl, ho4, hb4⟩; have IQ4 : Hid (Il w4 q4 0 (fun _ => 0)) := il_of_own ho4; obtain ⟨aq4, cq4, rfl, hcq4, hcl4⟩ := il_of_own ho4; have IO4 : Hid (Il w4 (.slice ao2 0 co2) 0 (fun _ => 0)) := IO3.out.below hb4; have HU4 : Hid (Il w4 (.slice au m cu) m ys) := HU3.out.below hb4; have B4 : Hid (Below w.heap.size w w4) := bstep B3.out hb4; clear ho4 hb4 hcl4))
    go_wp2
    go_loopw [11] (fun i wr => ∃ k : Nat, i = .int .i64 k ∧ k ≤ 0 ∧ wr = w4) (fun i _ => 0 - (intOf i).toNat)
    case atStart => exact ⟨0, rfl, by omega, rfl⟩
    case round =>
      obtain ⟨k, rfl, hk1, hwr⟩ := hrel
      obtain rfl := hwr.symm
      by_cases h1 : k < 0
      · omega
      · obtain rfl : k = 0 := by omega
        clear h1 hk1
        go_wp2
        go_loopw [12] (fun i wr => ∃ j : Nat, i = .int .i64 j ∧ j ≤ 0 ∧ Hid (Below w4.heap.size w4 wr)) (fun i _ => 0 - (intOf i).toNat)
        case atStart => exact ⟨0, rfl, by omega, Below.refl _ _⟩
        case round =>
          obtain ⟨j, rfl, hj, hrel⟩ := hrel
          by_cases h2 : j < 0
          · omega
          · obtain rfl : j = 0 := by omega
            have HF := flat_yes
            rcases hkk with hkk | hkk
            · skip
              go_wp2_with (first | (go_at_call 14; refine (HF _).mono ?_; rintro e w5 ⟨f5, rfl, ho5, hb5⟩; obtain ⟨af, cf, rfl, hcf, hcl⟩ := il_of_own ho5; obtain ⟨b, off, rfl, hlt, hcell⟩ := hcl (by omega); have c : w5.cell? ⟨b, off, none⟩ = some (.int .i64 1073741824) := hcell 0 (by omega); have B5 : Hid (Below w.heap.size w w5) := bstep (bstep B4.out hrel.out) hb5; clear hcell hcl ho5 hb5))
              go_ret
              exact ⟨rfl, B5.out⟩
            · skip
              go_wp2_with (first | (go_at_call 14; refine (HF _).mono ?_; rintro e w5 ⟨f5, rfl, ho5, hb5⟩; obtain ⟨af, cf, rfl, hcf, hcl⟩ := il_of_own ho5; obtain ⟨b, off, rfl, hlt, hcell⟩ := hcl (by omega); have c : w5.cell? ⟨b, off, none⟩ = some (.int .i64 1073741824) := hcell 0 (by omega); have B5 : Hid (Below w.heap.size w w5) := bstep (bstep B4.out hrel.out) hb5; clear hcell hcl ho5 hb5))
              go_ret
              exact ⟨rfl, B5.out⟩
end Go.Proofs.Ytlagndmhcndnnaa
