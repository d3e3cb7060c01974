/- The model's Air. -/
import Derived.Test.YtlcfcdpgggocnaaAK
import Derived.Laws.AppendOwn
namespace Go.Proofs.Ytlcfcdpgggocnaa
open Go.RowKit

set_option maxHeartbeats 2000000 in
theorem sAir_bad {w : World} {v u : Value} {n m : Nat} {z y : Nat → Int} {dl q : Int} (hv : Il2 w v n z) (hu : Il2 w u m y) (hn : n ≤ 1048576) (hm : m ≤ 1048576) (hg : ¬ Gin n z m y dl q) (ys : Nat → Int) :
    Calls Try.prog 5 #[v, .int .i64 dl, .int .i64 q, u] w fun e w' => Ppk w w' e 0 ys false := by
  have i1 := sBurst_any hv (by omega)
  have i2 : Hid (∀ W, Below w.heap.size w W → Calls Try.prog 11 #[u] W fun e w' => e = .returned (.bool (decide (m ≤ 4096 ∧ Pok m y))) ∧ Below W.heap.size W w') := fun W hW => sBurst_any (hu.below hW) (by omega)
  have i3 := fun W => in_any dl 0 200 W
  have i4 := fun W => in_any q 0 3 W
  obtain ⟨ao, cap, rfl, hcap, hc⟩ := hv
  obtain ⟨bo, bap, rfl, hbap, hbc⟩ := hu
  have HG : Hid (¬ Gin n z m y dl q) := hg
  clear hc hbc hg
  by_cases h0 : n ≤ 4096 ∧ Pok n z
  · rw [decide_eq_true h0] at i1
    by_cases h1 : m ≤ 4096 ∧ Pok m y
    · simp only [decide_eq_true h1] at i2
      by_cases h2 : 0 ≤ dl ∧ dl ≤ 200
      · simp only [decide_eq_true h2] at i3
        by_cases h3 : 0 ≤ q ∧ q ≤ 3
        · simp only [decide_eq_true h3] at i4
          by_cases h4 : (m : Int) ≤ dl + n
          · skip
            exact absurd (show Gin n z m y dl q from ⟨h0, h1, h2.1, h2.2, h3.1, h3.2, h4⟩) HG.out
          · skip
            go_enter Try.func5, Try.ntmps5
            go_wp2_with (first
                | (go_at_call 11; (fail_if_success have := M1); (with_reducible refine i1.mono ?_); rintro e w1 ⟨rfl, hb1⟩; have M1 : Hid True := trivial; have B1 : Hid (Below w.heap.size w w1) := hb1; clear hb1)
                | (go_at_call 11; have Z := M1; (with_reducible refine (i2.out _ B1.out).mono ?_); rintro e w2 ⟨rfl, hb2⟩; have B1 : Hid (Below w.heap.size w w2) := bstep B1.out hb2; clear hb2)
                | (go_at_call 12; (with_reducible refine (i3 _).mono ?_); rintro e w' ⟨rfl, hw⟩; obtain rfl := hw.symm; clear i3)
                | (go_at_call 12; (with_reducible refine (i4 _).mono ?_); rintro e w' ⟨rfl, hw⟩; obtain rfl := hw.symm; clear i4))
            go_ret2
            exact ⟨_, rfl, own_base (own_empty _ 34 2) B1.out.size, bstep B1.out (below_one _ _)⟩
        · simp only [decide_eq_false h3] at i4
          go_enter Try.func5, Try.ntmps5
          go_wp2_with (first
              | (go_at_call 11; (fail_if_success have := M1); (with_reducible refine i1.mono ?_); rintro e w1 ⟨rfl, hb1⟩; have M1 : Hid True := trivial; have B1 : Hid (Below w.heap.size w w1) := hb1; clear hb1)
              | (go_at_call 11; have Z := M1; (with_reducible refine (i2.out _ B1.out).mono ?_); rintro e w2 ⟨rfl, hb2⟩; have B1 : Hid (Below w.heap.size w w2) := bstep B1.out hb2; clear hb2)
              | (go_at_call 12; (with_reducible refine (i3 _).mono ?_); rintro e w' ⟨rfl, hw⟩; obtain rfl := hw.symm; clear i3)
              | (go_at_call 12; (with_reducible refine (i4 _).mono ?_); rintro e w' ⟨rfl, hw⟩; obtain rfl := hw.symm; clear i4))
          go_ret2
          exact ⟨_, rfl, own_base (own_empty _ 34 2) B1.out.size, bstep B1.out (below_one _ _)⟩
      · simp only [decide_eq_false h2] at i3
        go_enter Try.func5, Try.ntmps5
        go_wp2_with (first
            | (go_at_call 11; (fail_if_success have := M1); (with_reducible refine i1.mono ?_); rintro e w1 ⟨rfl, hb1⟩; have M1 : Hid True := trivial; have B1 : Hid (Below w.heap.size w w1) := hb1; clear hb1)
            | (go_at_call 11; have Z := M1; (with_reducible refine (i2.out _ B1.out).mono ?_); rintro e w2 ⟨rfl, hb2⟩; have B1 : Hid (Below w.heap.size w w2) := bstep B1.out hb2; clear hb2)
            | (go_at_call 12; (with_reducible refine (i3 _).mono ?_); rintro e w' ⟨rfl, hw⟩; obtain rfl := hw.symm; clear i3)
            | (go_at_call 12; (with_reducible refine (i4 _).mono ?_); rintro e w' ⟨rfl, hw⟩; obtain rfl := hw.symm; clear i4))
        go_ret2
        exact ⟨_, rfl, own_base (own_empty _ 34 2) B1.out.size, bstep B1.out (below_one _ _)⟩
    · simp only [decide_eq_false h1] at i2
      go_enter Try.func5, Try.ntmps5
      go_wp2_with (first
          | (go_at_call 11; (fail_if_success have := M1); (with_reducible refine i1.mono ?_); rintro e w1 ⟨rfl, hb1⟩; have M1 : Hid True := trivial; have B1 : Hid (Below w.heap.size w w1) := hb1; clear hb1)
          | (go_at_call 11; have Z := M1; (with_reducible refine (i2.out _ B1.out).mono ?_); rintro e w2 ⟨rfl, hb2⟩; have B1 : Hid (Below w.heap.size w w2) := bstep B1.out hb2; clear hb2)
          | (go_at_call 12; (with_reducible refine (i3 _).mono ?_); rintro e w' ⟨rfl, hw⟩; obtain rfl := hw.symm; clear i3)
          | (go_at_call 12; (with_reducible refine (i4 _).mono ?_); rintro e w' ⟨rfl, hw⟩; obtain rfl := hw.symm; clear i4))
      go_ret2
      exact ⟨_, rfl, own_base (own_empty _ 34 2) B1.out.size, bstep B1.out (below_one _ _)⟩
  · rw [decide_eq_false h0] at i1
    go_enter Try.func5, Try.ntmps5
    go_wp2_with (first
        | (go_at_call 11; (fail_if_success have := M1); (with_reducible refine i1.mono ?_); rintro e w1 ⟨rfl, hb1⟩; have M1 : Hid True := trivial; have B1 : Hid (Below w.heap.size w w1) := hb1; clear hb1)
        | (go_at_call 11; have Z := M1; (with_reducible refine (i2.out _ B1.out).mono ?_); rintro e w2 ⟨rfl, hb2⟩; have B1 : Hid (Below w.heap.size w w2) := bstep B1.out hb2; clear hb2)
        | (go_at_call 12; (with_reducible refine (i3 _).mono ?_); rintro e w' ⟨rfl, hw⟩; obtain rfl := hw.symm; clear i3)
        | (go_at_call 12; (with_reducible refine (i4 _).mono ?_); rintro e w' ⟨rfl, hw⟩; obtain rfl := hw.symm; clear i4))
    go_ret2
    exact ⟨_, rfl, own_base (own_empty _ 34 2) B1.out.size, bstep B1.out (below_one _ _)⟩

set_option maxHeartbeats 8000000 in
theorem sAir_good {w : World} {v u : Value} {n m D q : Nat} {z y : Nat → Int} (hv : Il2 w v n z) (hu : Il2 w u m y) (hg : Gin n z m y (D : Int) (q : Int)) :
    Calls Try.prog 5 #[v, .int .i64 (D : Int), .int .i64 (q : Int), u] w fun e w' => Air w w' e (D + n) (airz D q z m y) := by
  obtain ⟨i0, hi, hz0, hz1, hz2⟩ := info_parts Try.info34
  obtain ⟨⟨hn, hp⟩, ⟨hm, hpy⟩, g1, hD, g2, hq, hmn⟩ := hg
  have i1 := sBurst_any hv (by omega)
  have i2 : Hid (∀ W, Below w.heap.size w W → Calls Try.prog 11 #[u] W fun e w' => e = .returned (.bool (decide (m ≤ 4096 ∧ Pok m y))) ∧ Below W.heap.size W w') := fun W hW => sBurst_any (hu.below hW) (by omega)
  rw [decide_eq_true (show n ≤ 4096 ∧ Pok n z from ⟨hn, hp⟩)] at i1
  simp only [decide_eq_true (show m ≤ 4096 ∧ Pok m y from ⟨hm, hpy⟩)] at i2
  have i3 := fun W => in_any (D : Int) 0 200 W
  have i4 := fun W => in_any (q : Int) 0 3 W
  simp only [decide_eq_true (show 0 ≤ (D : Int) ∧ (D : Int) ≤ 200 from ⟨g1, hD⟩)] at i3
  simp only [decide_eq_true (show 0 ≤ (q : Int) ∧ (q : Int) ≤ 3 from ⟨g2, hq⟩)] at i4
  have hD' : D ≤ 200 := by omega
  have hq' : q < 4 := by omega
  have hmn' : m ≤ D + n := by omega
  obtain ⟨ao, cap, rfl, hcap, hc⟩ := hv
  obtain ⟨bo, bap, rfl, hbap, hbc⟩ := hu
  have HC : Hid (0 < n → ∃ b off, ao = some ⟨b, off, none⟩ ∧ b < w.heap.size ∧ ∀ k, k < n → w.cell? ⟨b, off + k * 2, none⟩ = some (.int .i64 (z (k * 2))) ∧ w.cell? ⟨b, off + k * 2 + 1, none⟩ = some (.int .i64 (z (k * 2 + 1)))) := hc
  have HCY : Hid (0 < m → ∃ b off, bo = some ⟨b, off, none⟩ ∧ b < w.heap.size ∧ ∀ k, k < m → w.cell? ⟨b, off + k * 2, none⟩ = some (.int .i64 (y (k * 2))) ∧ w.cell? ⟨b, off + k * 2 + 1, none⟩ = some (.int .i64 (y (k * 2 + 1)))) := hbc
  have HP : Hid (Pok n z) := hp
  have HY : Hid (Pok m y) := hpy
  clear hc hbc hp hpy hD hq g1 g2
  go_enter Try.func5, Try.ntmps5
  go_upto_region 3 with (first
    | (go_at_call 11; (fail_if_success have := M1); (with_reducible refine i1.mono ?_); rintro e w1 ⟨rfl, hb1⟩; have M1 : Hid True := trivial; have B1 : Hid (Below w.heap.size w w1) := hb1; clear hb1)
    | (go_at_call 11; have Z := M1; (with_reducible refine (i2.out _ B1.out).mono ?_); rintro e w2 ⟨rfl, hb2⟩; have B1 : Hid (Below w.heap.size w w2) := bstep B1.out hb2; clear hb2)
    | (go_at_call 12; (with_reducible refine (i3 _).mono ?_); rintro e w' ⟨rfl, hw⟩; obtain rfl := hw.symm; clear i3)
    | (go_at_call 12; (with_reducible refine (i4 _).mono ?_); rintro e w' ⟨rfl, hw⟩; obtain rfl := hw.symm; clear i4))
  obtain ⟨W2, hm2, hrow, hgr⟩ := run_makeSlice_full (P := Try.prog) w2 w2.heap.size 24 34 i0 (.agg #[.int .i64 0, .int .i64 0]) 2 Try.underlying24 hi hz0 hz1 .i64 .i64 D (by omega) (by rw [hz2]; omega) (by unfold maxLen; omega) (Nat.le_refl _)
  have hb2 : Below w2.heap.size w2 W2 := (Below.refl _ _).grown hgr (Nat.le_refl _) (fun _ h => by cases h)
  rw [made2] at hrow
  have R2 : Hid (W2.ownsRow w.heap.size 34 2 (.slice (some ⟨w2.heap.size, 0, none⟩) D D) D (ils (fun _ => 0) (D * 2))) := own_base hrow B1.out.size
  have B2 : Hid (Below w.heap.size w W2) := bstep B1.out hb2
  clear hrow hgr hb2 hmn
  go_wp2
  clear hm2 i1
  go_loopw [10, 11] (fun o i wr => ∃ k : Nat, i = .int .i64 (k : Int) ∧ k ≤ n ∧ Hid (wr.ownsRow w.heap.size 34 2 o (D + k) (ils (airb D q z) ((D + k) * 2)) ∧ Below w.heap.size w wr ∧ o ≠ .slice none 0 0)) (fun _ i _ => n - (intOf i).toNat)
  case atStart => exact ⟨0, rfl, by omega, by have := R2.out; rw [← ils_congr (f := airb D q z) (fun i hi => by unfold airb; rw [if_pos hi])] at this; exact this, B2.out, by simp⟩
  case round =>
    obtain ⟨k, rfl, hk, hrel⟩ := hrel
    by_cases h1 : k < n
    · obtain ⟨b, off, rfl, hlt, hcell⟩ := HC.out (by omega)
      have NZ : Hid (_) := hrel.out.2.2
      have c0 := (hrel.out.2.1.cell (p := ⟨b, off + k * 2, none⟩) hlt).trans (hcell k h1).1
      have c1 := (hrel.out.2.1.cell (p := ⟨b, off + k * 2 + 1, none⟩) hlt).trans (hcell k h1).2
      have sx := (HP.out k h1).1
      have sy := (HP.out k h1).2
      obtain ⟨x, hx⟩ : ∃ x, x = z (k * 2) := ⟨_, rfl⟩
      obtain ⟨y1, hy⟩ : ∃ y, y = z (k * 2 + 1) := ⟨_, rfl⟩
      rw [← hx] at c0 sx
      rw [← hy] at c1 sy
      have HX : Hid (tx q x y1 = airb D q z ((D + k) * 2) ∧ ty q x y1 = airb D q z ((D + k) * 2 + 1)) := ⟨by unfold airb; rw [if_neg (by omega), show (D + k) * 2 - D * 2 = k * 2 by omega, hx, hy, trn_0], by unfold airb; rw [if_neg (by omega), show (D + k) * 2 + 1 - D * 2 = k * 2 + 1 by omega, hx, hy, trn_1]⟩
      have i4 := quarter_any hq' sx sy
      generalize tx q x y1 = X at HX i4
      generalize ty q x y1 = Y at HX i4
      have HO3 : Hid (_) := hrel.out.1
      have HB3 : Hid (_) := hrel.out.2.1
      clear hcell hx hy hrel sx sy
      go_wp2_with (first
        | (go_at_call 13; (with_reducible refine (i4 _).mono ?_); rintro e w5 ⟨rfl, hb5⟩; have HO5 := own_below (own_below HO3.out hb5) (below_one w5 (.cells #[.int .i64 X, .int .i64 Y] 34)); have HB5 := bstep (bstep HB3.out hb5) (below_one w5 (.cells #[.int .i64 X, .int .i64 Y] 34)); clear hb5)
        | (at_builtin; refine wpList_append_own _ rfl _ _ 24 rfl w.heap.size 34 i0 (.agg #[.int .i64 0, .int .i64 0]) 2 16 Try.underlying24 hi hz0 hz1 hz2 rfl (by decide) _ _ _ rfl HO5 ⟨w5.heap.size, 0, none⟩ 1 1 [.int .i64 X, .int .i64 Y] rfl rfl (two_new _ _ _ _) (by simp [Value.oneCell']) (by unfold maxLen; omega) (by omega) HB5.size ?_))
      intro v' w4 hown' hgrow hnn
      have NZ4 : Hid (v' ≠ .slice none 0 0) := hnn
      have HB4 : Hid (Below w.heap.size w w4) := grown_below HB5 (Nat.le_refl _) HO5 hgrow
      rw [HX.out.1, HX.out.2, ← ils_two] at hown'
      have HO4 : Hid (w4.ownsRow w.heap.size 34 2 v' (D + (k + 1)) (ils (airb D q z) ((D + (k + 1)) * 2))) := hown'
      clear hown' hgrow hnn HO5 HB5 HO3 HB3 i4
      go_wp2
      go_roundw
      case rel => exact ⟨k + 1, by go_num, by omega, HO4.out, HB4.out, NZ4.out⟩
      case measure => simp [intOf]; omega
    · obtain rfl : n = k := by omega
      obtain ⟨g4, c4, rfl⟩ := own_some hrel.out.1 hrel.out.2.2
      have R4 : Hid _ := hrel.out.1
      have B4 : Hid _ := hrel.out.2.1
      clear hrel
      go_wp2
      go_loopw [12] (fun i wr => ∃ k : Nat, i = .int .i64 (k : Int) ∧ k ≤ m ∧ Hid (∃ f', wr.ownsRow w.heap.size 34 2 (.slice (some ⟨g4, 0, none⟩) (D + n) c4) (D + n) (ils f' ((D + n) * 2)) ∧ (∀ j, j < (D + n) * 2 → f' j = airb D q z j + (if j < k * 2 then y j else 0)) ∧ Below w.heap.size w wr)) (fun i _ => m - (intOf i).toNat)
      case atStart => exact ⟨0, rfl, by omega, _, R4.out, fun j _ => by simp, B4.out⟩
      case round =>
        obtain ⟨k, rfl, hk, hrel⟩ := hrel
        obtain ⟨f', hf, hmk, hbl⟩ := hrel.out
        clear hrel
        by_cases h1 : k < m
        · obtain ⟨b, off, rfl, hlt, hcell⟩ := HCY.out (by omega)
          have c0 := (hbl.cell (p := ⟨b, off + k * 2, none⟩) hlt).trans (hcell k h1).1
          have c1 := (hbl.cell (p := ⟨b, off + k * 2 + 1, none⟩) hlt).trans (hcell k h1).2
          have sx := (HY.out k h1).1
          have sy := (HY.out k h1).2
          have tX : Smp (f' (k * 2)) := by rw [hmk _ (by omega), if_neg (by omega), Int.add_zero]; exact airb_in HP.out (by omega)
          have tY : Smp (f' (k * 2 + 1)) := by rw [hmk _ (by omega), if_neg (by omega), Int.add_zero]; exact airb_in HP.out (by omega)
          obtain ⟨x1, hx⟩ : ∃ x1, x1 = y (k * 2) := ⟨_, rfl⟩
          obtain ⟨y1, hy⟩ : ∃ y1, y1 = y (k * 2 + 1) := ⟨_, rfl⟩
          obtain ⟨Xv, hX⟩ : ∃ X, X = f' (k * 2) := ⟨_, rfl⟩
          obtain ⟨Yv, hY⟩ : ∃ Y, Y = f' (k * 2 + 1) := ⟨_, rfl⟩
          rw [← hx] at c0 sx
          rw [← hy] at c1 sy
          rw [← hX] at tX
          rw [← hY] at tY
          unfold Smp at sx sy tX tY
          have gne : b ≠ g4 := by have := own2_ge hf (by omega); omega
          have glo := own2_ge hf (by omega)
          have db : Below wr.heap.size wr wr.drew := (Below.refl _ _).drew
          have hf6 : Hid _ := own_below hf db
          have B6 : Hid _ := bstep hbl db
          have e0 : Hid _ := (db.cell (p := ⟨b, off + k * 2, none⟩) (World.block_lt_of_cell? wr _ c0)).trans c0
          have e1 : Hid _ := (db.cell (p := ⟨b, off + k * 2 + 1, none⟩) (World.block_lt_of_cell? wr _ c1)).trans c1
          have HM : Hid (∀ j, j < (D + n) * 2 → f' j = airb D q z j + (if j < k * 2 then y j else 0)) := hmk
          have HXY : Hid (x1 = y (k * 2) ∧ y1 = y (k * 2 + 1) ∧ Xv = f' (k * 2) ∧ Yv = f' (k * 2 + 1)) := ⟨hx, hy, hX, hY⟩
          clear hf hmk hbl hcell hlt hx hy hX hY
          go_upto_region 11 with fail
          clear c0 c1
          refine wp_region_any (by kernel_rfl) ?_
          change wpAny _ _ _ _ _ _ _ (World.drew _)
          refine wpI_any (I := fun X => X.cell? ⟨b, off + k * 2, none⟩ = some (.int .i64 x1) ∧ X.cell? ⟨b, off + k * 2 + 1, none⟩ = some (.int .i64 y1)) _ _ _ _ ?_
          generalize wr.drew = W6 at *
          have c0 := e0.out
          have c1 := e1.out
          clear e0 e1 db
          have d0 := (own2_cell hf6.out (j := k * 2) (by omega)).trans (by rw [← HXY.out.2.2.1])
          have d1 := (own2_cell hf6.out (j := k * 2 + 1) (by omega)).trans (by rw [← HXY.out.2.2.2])
          have z0 := World.ownsRow.frozenAt hf6.out (k * 2)
          have z1 := World.ownsRow.frozenAt hf6.out (k * 2 + 1)
          have st := (World.ownsRow.stored (World.ownsRow.stored hf6.out (k * 2) (.int .i64 (Xv + x1))).1 (k * 2 + 1) (.int .i64 (Yv + y1))).1
          rw [ils_put, ils_put] at st
          have OP : Hid _ := st
          have BP : Hid _ := (B6.out.setCell (p := ⟨g4, k * 2, none⟩) glo (.int .i64 (Xv + x1))).setCell (p := ⟨g4, k * 2 + 1, none⟩) glo (.int .i64 (Yv + y1))
          clear st B6
          refine wpI_take (i := 0) (v := ?_) rfl (by kernel_rfl) (by kernel_rfl) (by kernel_rfl) (fun _ _ _ h => h) ⟨by rfl, ?_⟩ ?_
          rotate_left
          · intro X hI; go_simp; try go_bits
            try rw [if_pos (by omega)]
            try with_reducible rfl
          refine wpI_take (i := 1) (v := ?_) rfl (by kernel_rfl) (by kernel_rfl) (by kernel_rfl) (fun _ _ _ h => h) ⟨by rfl, ?_⟩ ?_
          rotate_left
          · intro X hI; go_simp; try go_bits
            try rw [if_pos (by omega)]
            try with_reducible rfl
          refine wpI_take (i := 2) (v := ?_) rfl (by kernel_rfl) (by kernel_rfl) (by kernel_rfl) (fun _ _ _ h => h) ⟨by rfl, ?_⟩ ?_
          rotate_left
          · intro X hI; go_simp; try go_bits
            try rw [if_pos (by omega)]
            try with_reducible rfl
          refine wpI_take (i := 3) (v := ?_) rfl (by kernel_rfl) (by kernel_rfl) (by kernel_rfl) (fun _ _ _ h => h) ⟨by rfl, ?_⟩ ?_
          rotate_left
          · intro X hI; go_simp; try go_bits
            try rw [if_pos (by omega)]
            try with_reducible rfl
          refine wpI_take (i := 4) (v := ?_) rfl (by kernel_rfl) (by kernel_rfl) (by kernel_rfl) (fun _ _ _ h => h) ⟨by rfl, ?_⟩ ?_
          rotate_left
          · intro X hI; go_simp; try go_bits
            try rw [if_pos (by omega)]
            try with_reducible rfl
          refine wpI_take (i := 5) (v := ?_) rfl (by kernel_rfl) (by kernel_rfl) (by kernel_rfl) (fun _ _ _ h => h) ⟨by rfl, ?_⟩ ?_
          rotate_left
          · intro X hI; go_simp; try go_bits
            try rw [if_pos (by omega)]
            try with_reducible rfl
          refine wpI_take (i := 7) (v := ?_) rfl (by kernel_rfl) (by kernel_rfl) (by kernel_rfl) (fun _ _ _ h => h) ⟨by rfl, ?_⟩ ?_
          rotate_left
          · intro X hI; go_simp; try go_bits
            try rw [if_pos (by omega)]
            try with_reducible rfl
          refine wpI_take (i := 8) (v := ?_) rfl (by kernel_rfl) (by kernel_rfl) (by kernel_rfl) (fun _ _ _ h => h) ⟨by rfl, ?_⟩ ?_
          rotate_left
          · intro X hI; go_simp; try go_bits
            try rw [if_pos (by omega)]
            try with_reducible rfl
          refine wpI_take (i := 9) (v := ?_) rfl (by kernel_rfl) (by kernel_rfl) (by kernel_rfl) (fun _ _ _ h => h) ⟨by rfl, ?_⟩ ?_
          rotate_left
          · intro X hI; go_simp; try go_bits
            try rw [if_pos (by omega)]
            try with_reducible rfl
          refine wpI_take (i := 10) (v := ?_) rfl (by kernel_rfl) (by kernel_rfl) (by kernel_rfl) (fun _ _ _ h => h) ⟨by rfl, ?_⟩ ?_
          rotate_left
          · intro X hI; go_simp; try go_bits
            try rw [if_pos (by omega)]
            try with_reducible rfl
          refine wpI_take (i := 11) (v := .int .i64 x1) rfl (by kernel_rfl) (by kernel_rfl) (by kernel_rfl) (fun _ _ _ h => h) ⟨by rfl, ?_⟩ ?_
          · intro X hI; have c9 := hI.1; go_simp; try go_bits
            try rw [if_pos (by omega)]
            try trivial
          refine wpI_take (i := 13) (v := ?_) rfl (by kernel_rfl) (by kernel_rfl) (by kernel_rfl) (fun _ _ _ h => h) ⟨by rfl, ?_⟩ ?_
          rotate_left
          · intro X hI; go_simp; try go_bits
            try rw [if_pos (by omega)]
            try with_reducible rfl
          refine wpI_take (i := 14) (v := ?_) rfl (by kernel_rfl) (by kernel_rfl) (by kernel_rfl) (fun _ _ _ h => h) ⟨by rfl, ?_⟩ ?_
          rotate_left
          · intro X hI; go_simp; try go_bits
            try rw [if_pos (by omega)]
            try with_reducible rfl
          refine wpI_take (i := 15) (v := ?_) rfl (by kernel_rfl) (by kernel_rfl) (by kernel_rfl) (fun _ _ _ h => h) ⟨by rfl, ?_⟩ ?_
          rotate_left
          · intro X hI; go_simp; try go_bits
            try rw [if_pos (by omega)]
            try with_reducible rfl
          refine wpI_take (i := 16) (v := ?_) rfl (by kernel_rfl) (by kernel_rfl) (by kernel_rfl) (fun _ _ _ h => h) ⟨by rfl, ?_⟩ ?_
          rotate_left
          · intro X hI; go_simp; try go_bits
            try rw [if_pos (by omega)]
            try with_reducible rfl
          refine wpI_take (i := 18) (v := ?_) rfl (by kernel_rfl) (by kernel_rfl) (by kernel_rfl) (fun _ _ _ h => h) ⟨by rfl, ?_⟩ ?_
          rotate_left
          · intro X hI; go_simp; try go_bits
            try rw [if_pos (by omega)]
            try with_reducible rfl
          refine wpI_take (i := 19) (v := ?_) rfl (by kernel_rfl) (by kernel_rfl) (by kernel_rfl) (fun _ _ _ h => h) ⟨by rfl, ?_⟩ ?_
          rotate_left
          · intro X hI; go_simp; try go_bits
            try rw [if_pos (by omega)]
            try with_reducible rfl
          refine wpI_take (i := 20) (v := ?_) rfl (by kernel_rfl) (by kernel_rfl) (by kernel_rfl) (fun _ _ _ h => h) ⟨by rfl, ?_⟩ ?_
          rotate_left
          · intro X hI; go_simp; try go_bits
            try rw [if_pos (by omega)]
            try with_reducible rfl
          refine wpI_take (i := 21) (v := ?_) rfl (by kernel_rfl) (by kernel_rfl) (by kernel_rfl) (fun _ _ _ h => h) ⟨by rfl, ?_⟩ ?_
          rotate_left
          · intro X hI; go_simp; try go_bits
            try rw [if_pos (by omega)]
            try with_reducible rfl
          refine wpI_take (i := 22) (v := .int .i64 y1) rfl (by kernel_rfl) (by kernel_rfl) (by kernel_rfl) (fun _ _ _ h => h) ⟨by rfl, ?_⟩ ?_
          · intro X hI; have c9 := hI.2; go_simp; try go_bits
            try rw [if_pos (by omega)]
            try trivial
          refine wpI_two (i := 6) (j := 17) rfl rfl (by kernel_rfl) ⟨c0, c1⟩ (by rfl) (by rfl) ?_ ?_
          · intro K hK
            go_simp
            try go_bits
            refine hK _ _ ?_
            clear hK K
            refine wpI_take (i := 12) (v := .int .i64 (Xv + x1)) rfl (by kernel_rfl) (by kernel_rfl) (by kernel_rfl) (fun _ _ _ h => h) ⟨by rfl, ?_⟩ ?_
            · intro X hI; go_simp; try go_bits
              try rw [if_pos (by omega)]
              try trivial
            refine wpI_only (i := 17) rfl (by kernel_rfl) ⟨c0, c1⟩ (by rfl) ?_
            intro K hK
            go_simp
            try go_bits
            refine hK _ _ ?_
            clear hK K
            refine wpI_take (i := 23) (v := .int .i64 (Yv + y1)) rfl (by kernel_rfl) (by kernel_rfl) (by kernel_rfl) (fun _ _ _ h => h) ⟨by rfl, ?_⟩ ?_
            · intro X hI; go_simp; try go_bits
              try rw [if_pos (by omega)]
              try trivial
            refine wpI_take (i := 24) (v := ?_) rfl (by kernel_rfl) (by kernel_rfl) (by kernel_rfl) (fun _ _ _ h => h) ⟨by rfl, ?_⟩ ?_
            rotate_left
            · intro X hI; go_simp; try go_bits
              try rw [if_pos (by omega)]
              try with_reducible rfl
            refine wpI_take (i := 25) (v := ?_) rfl (by kernel_rfl) (by kernel_rfl) (by kernel_rfl) (fun _ _ _ h => h) ⟨by rfl, ?_⟩ ?_
            rotate_left
            · intro X hI; go_simp; try go_bits
              try rw [if_pos (by omega)]
              try with_reducible rfl
            refine wpI_only (i := 26) rfl (by kernel_rfl) ⟨c0, c1⟩ (by rfl) ?_
            intro K hK
            go_simp
            refine hK _ _ ?_
            refine wpI_done ⟨(World.cell?_of_block (w := W6) ((Below.heap_setCell _ _ _ _ gne).trans (Below.heap_setCell _ _ _ _ gne))).trans c0, (World.cell?_of_block (w := W6) ((Below.heap_setCell _ _ _ _ gne).trans (Below.heap_setCell _ _ _ _ gne))).trans c1⟩ (by kernel_rfl) ?_ _
            clear d0 d1 z0 z1 c0 c1 hK hf6
            go_wp2
            go_roundw
            case rel =>
              refine ⟨k + 1, by go_num, by omega, _, OP.out, fun j hj => ?_, BP.out⟩
              by_cases h8 : j = k * 2 + 1
              · subst h8
                rw [if_pos rfl, if_pos (by omega), HXY.out.2.2.2, HM.out _ hj, if_neg (by omega), HXY.out.2.1]
                omega
              · by_cases h9 : j = k * 2
                · subst h9
                  rw [if_neg h8, if_pos rfl, if_pos (by omega), HXY.out.2.2.1, HM.out _ hj, if_neg (by omega), HXY.out.1]
                  omega
                · rw [if_neg h8, if_neg h9, HM.out _ hj]
                  by_cases h7 : j < k * 2
                  · rw [if_pos h7, if_pos (by omega)]
                  · rw [if_neg h7, if_neg (by omega)]
            case measure => simp [intOf]; omega
          · intro K hK
            go_simp
            try go_bits
            refine hK _ _ ?_
            clear hK K
            refine wpI_take (i := 23) (v := .int .i64 (Yv + y1)) rfl (by kernel_rfl) (by kernel_rfl) (by kernel_rfl) (fun _ _ _ h => h) ⟨by rfl, ?_⟩ ?_
            · intro X hI; go_simp; try go_bits
              try rw [if_pos (by omega)]
              try trivial
            refine wpI_only (i := 6) rfl (by kernel_rfl) ⟨c0, c1⟩ (by rfl) ?_
            intro K hK
            go_simp
            try go_bits
            refine hK _ _ ?_
            clear hK K
            refine wpI_take (i := 12) (v := .int .i64 (Xv + x1)) rfl (by kernel_rfl) (by kernel_rfl) (by kernel_rfl) (fun _ _ _ h => h) ⟨by rfl, ?_⟩ ?_
            · intro X hI; go_simp; try go_bits
              try rw [if_pos (by omega)]
              try trivial
            refine wpI_take (i := 24) (v := ?_) rfl (by kernel_rfl) (by kernel_rfl) (by kernel_rfl) (fun _ _ _ h => h) ⟨by rfl, ?_⟩ ?_
            rotate_left
            · intro X hI; go_simp; try go_bits
              try rw [if_pos (by omega)]
              try with_reducible rfl
            refine wpI_take (i := 25) (v := ?_) rfl (by kernel_rfl) (by kernel_rfl) (by kernel_rfl) (fun _ _ _ h => h) ⟨by rfl, ?_⟩ ?_
            rotate_left
            · intro X hI; go_simp; try go_bits
              try rw [if_pos (by omega)]
              try with_reducible rfl
            refine wpI_only (i := 26) rfl (by kernel_rfl) ⟨c0, c1⟩ (by rfl) ?_
            intro K hK
            go_simp
            refine hK _ _ ?_
            refine wpI_done ⟨(World.cell?_of_block (w := W6) ((Below.heap_setCell _ _ _ _ gne).trans (Below.heap_setCell _ _ _ _ gne))).trans c0, (World.cell?_of_block (w := W6) ((Below.heap_setCell _ _ _ _ gne).trans (Below.heap_setCell _ _ _ _ gne))).trans c1⟩ (by kernel_rfl) ?_ _
            clear d0 d1 z0 z1 c0 c1 hK hf6
            go_wp2
            go_roundw
            case rel =>
              refine ⟨k + 1, by go_num, by omega, _, OP.out, fun j hj => ?_, BP.out⟩
              by_cases h8 : j = k * 2 + 1
              · subst h8
                rw [if_pos rfl, if_pos (by omega), HXY.out.2.2.2, HM.out _ hj, if_neg (by omega), HXY.out.2.1]
                omega
              · by_cases h9 : j = k * 2
                · subst h9
                  rw [if_neg h8, if_pos rfl, if_pos (by omega), HXY.out.2.2.1, HM.out _ hj, if_neg (by omega), HXY.out.1]
                  omega
                · rw [if_neg h8, if_neg h9, HM.out _ hj]
                  by_cases h7 : j < k * 2
                  · rw [if_pos h7, if_pos (by omega)]
                  · rw [if_neg h7, if_neg (by omega)]
            case measure => simp [intOf]; omega
        · obtain rfl : m = k := by omega
          rw [ils_congr (g := airz D q z m y) hmk] at hf
          have i3 := sBurst_any (il2_of_own hf) (by omega)
          have HF : Hid _ := hf
          have BL : Hid (Below w.heap.size w wr) := hbl
          clear hf hmk hbl
          by_cases hz : D + n ≤ 4096 ∧ Pok (D + n) (airz D q z m y)
          · rw [decide_eq_true hz] at i3
            have HZ : Hid _ := hz
            clear hz
            go_wp2_with (go_at_call 11; (with_reducible refine i3.mono ?_); rintro e w9 ⟨rfl, hb9⟩)
            go_ret2
            unfold Air
            rw [if_pos HZ.out]
            exact ⟨_, rfl, own_below HF.out hb9, bstep BL.out hb9⟩
          · rw [decide_eq_false hz] at i3
            have HZ : Hid _ := hz
            clear hz
            go_wp2_with (go_at_call 11; (with_reducible refine i3.mono ?_); rintro e w9 ⟨rfl, hb9⟩)
            go_ret2
            unfold Air
            rw [if_neg HZ.out]
            exact ⟨_, rfl, own_base (own_empty w9 34 2) (bstep BL.out hb9).size, bstep (bstep BL.out hb9) (below_one _ _)⟩
end Go.Proofs.Ytlcfcdpgggocnaa
