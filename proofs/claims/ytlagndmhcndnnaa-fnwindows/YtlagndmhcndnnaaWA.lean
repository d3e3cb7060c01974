/- Taper. -/
import Derived.Test.YtlagndmhcndnnaaW7
namespace Go.Proofs.Ytlagndmhcndnnaa
open Go.RowKit

theorem rdV_le {a b M : Int} (hb : 1 ≤ b ∧ b ≤ 4000000000000000000) (ha : -4000000000000000000 ≤ a ∧ a ≤ 4000000000000000000) (h : a ≤ M * b) : rdV a b ≤ M := by
  have hd : a / b ≤ M := Int.ediv_le_of_le_mul (by omega) h
  have e := Int.mul_ediv_add_emod a b
  have r0 := Int.emod_nonneg a (show b ≠ 0 by omega)
  unfold rdV rdv
  rw [if_pos ⟨hb, ha⟩]
  split
  · rename_i hu
    by_cases hm : a / b = M
    · rw [hm, Int.mul_comm] at e
      omega
    · omega
  · exact hd

theorem rdV_ge {a b M : Int} (hb : 1 ≤ b ∧ b ≤ 4000000000000000000) (ha : -4000000000000000000 ≤ a ∧ a ≤ 4000000000000000000) (h : M * b ≤ a) : M ≤ rdV a b := by
  have hd : M ≤ a / b := (Int.le_ediv_iff_mul_le (by omega)).2 h
  unfold rdV rdv
  rw [if_pos ⟨hb, ha⟩]
  split <;> omega

theorem wnv_bounds {kd : Int} {n k : Nat} (hkd : kd = 1 ∨ kd = 2 ∨ kd = 3 ∨ kd = 4) (hk : k < n) (hn : n ≤ 512) : 0 ≤ wnv kd n k ∧ wnv kd n k ≤ 1073741824 := by
  have bc := cosv_bounds (rdV (256 * (k : Int)) n)
  rcases hkd with rfl | rfl | rfl | rfl
  · rw [wnv_1]; omega
  · rw [wnv_2, Int.tdiv_eq_ediv_of_nonneg (by omega)]; omega
  · rw [wnv_3]
    have bd := dmn_bounds hk hn
    have hd : dmn n k ≤ (n : Int) + 1 := by unfold dmn; split <;> split <;> omega
    exact ⟨rdV_ge ⟨by omega, by omega⟩ ⟨by omega, by omega⟩ (by omega), rdV_le ⟨by omega, by omega⟩ ⟨by omega, by omega⟩ (by omega)⟩
  · rw [wnv_4]
    exact ⟨rdV_ge ⟨by omega, by omega⟩ ⟨by omega, by omega⟩ (by omega), rdV_le ⟨by omega, by omega⟩ ⟨by omega, by omega⟩ (by omega)⟩

/-- A sample tapered. -/
def tpv (kd : Int) (n : Nat) (xs : Nat → Int) (k : Nat) : Int := rdV (xs k * wnv kd n k) 1073741824

/-- Good for Taper. -/
abbrev GP (kd : Int) (n : Nat) (xs : Nat → Int) : Prop := (1 ≤ kd ∧ kd ≤ 4) ∧ Sig n xs

theorem prod_bounds {x y : Int} (hx : Smp x) (hy : 0 ≤ y ∧ y ≤ 1073741824) : -1073741824000000000 ≤ x * y ∧ x * y ≤ 1073741824000000000 :=
  mul_bounds (A := 1000000000) (B := 1073741824) (by decide) hx ⟨by omega, hy.2⟩

/-- The model's Window at every length that a signal has. -/
theorem sWin_all {kd : Int} {n : Nat} (hk : 1 ≤ kd ∧ kd ≤ 4) (hn : n ≤ 512) (w : World) : Calls Try.prog 30 #[.int .i64 kd, .int .i64 n] w fun e w' => Pst w w' e n (wnv kd n) (decide (1 ≤ n)) := by
  by_cases h : 1 ≤ n
  · rw [decide_eq_true h]
    exact sWin_good ⟨hk, by omega, by omega⟩ w
  · obtain rfl : n = 0 := by omega
    exact (sWin_bad (n := ((0 : Nat) : Int)) (fun h => by have := h.2.1; omega) w).mono fun e w' h => h _

set_option maxRecDepth 20000 in
set_option maxHeartbeats 4000000 in
theorem sTap_good {w : World} {v : Value} {n : Nat} {xs : Nat → Int} {kd : Int} (hv : Il w v n xs) (hg : GP kd n xs) : Calls Try.prog 13 #[.int .i64 kd, v] w fun e w' => Pst w w' e n (tpv kd n xs) true := by
  obtain ⟨i0, hi, hz0, hz1, hz2⟩ := info_parts Try.info3
  obtain ⟨hk4, hs⟩ := hg
  have i1 := sSig_any (hv.below (below_one w (.cells #[] 3))) (Nat.le_trans hs.1 (by omega))
  have i2 := in_any kd 1 4
  rw [decide_eq_true hs] at i1
  rw [decide_eq_true hk4] at i2
  have i3 := sWin_all hk4 hs.1
  have HSg : Hid (Sig n xs) := hs
  have h512 := hs.1
  have HKD : Hid (kd = 1 ∨ kd = 2 ∨ kd = 3 ∨ kd = 4) := by unfold Hid; omega
  generalize decide (1 ≤ n) = dn at i3
  obtain ⟨ao, cap, rfl, hcap, hc⟩ := hv
  have HC : Hid (0 < n → ∃ b off, ao = some ⟨b, off, none⟩ ∧ b < w.heap.size ∧ ∀ k, k < n → w.cell? ⟨b, off + k, none⟩ = some (.int .i64 (xs k))) := hc
  clear hc hs hk4
  go_enter Try.func13, Try.ntmps13
  go_wp2_with (first | (go_at_call 28; (with_reducible refine (i1).mono ?_); rintro e w' ⟨rfl, hw⟩; obtain rfl := hw.symm) | (go_at_call 29; (with_reducible refine (i2 _).mono ?_); rintro e w' ⟨rfl, hw⟩; obtain rfl := hw.symm) | (go_at_call 30; (refine (i3 _).mono ?_); rintro e w1 ⟨u1, rfl, hv1, hb1⟩; have F1 : Hid (w1.ownsRow w.heap.size 3 1 u1 n (ils (wnv kd n) n)) := own_base hv1 (by simp); have A1 : Hid (Apart u1 (.slice (some ⟨w.heap.size, 0, none⟩) 0 0)) := apart_base hv1 (g := w.heap.size) rfl (by simp); have O1 : Hid (w1.ownsRow w.heap.size 3 1 (.slice (some ⟨w.heap.size, 0, none⟩) 0 0) 0 []) := own_below (own_empty w 3 1) hb1; have B1 : Hid (Below w.heap.size w w1) := bstep (below_one _ _) hb1; clear hv1 hb1))
  go_loopw [6, 9] (fun o i wr => ∃ k : Nat, i = .int .i64 k ∧ k ≤ n ∧ Hid (wr.ownsRow w.heap.size 3 1 o k (ils (tpv kd n xs) k) ∧ Below w.heap.size w wr ∧ wr.ownsRow w.heap.size 3 1 u1 n (ils (wnv kd n) n) ∧ Apart u1 o)) (fun _ i _ => n - (intOf i).toNat)
  case atStart => exact ⟨0, rfl, by omega, O1.out, B1.out, F1.out, A1.out⟩
  case round =>
    obtain ⟨k, rfl, hk, hrel⟩ := hrel
    by_cases h1 : k < n
    · obtain ⟨b, off, rfl, hlt, hcell⟩ := HC.out (by omega)
      have c := hcell k h1
      clear hcell
      rcases hrel.out.2.2.1.2 with ⟨_, h0⟩ | ⟨gw, capw, cur, rfl, _⟩
      · omega
      obtain ⟨W, hW⟩ : ∃ W, wnv kd n k = W := ⟨_, rfl⟩
      have HW : Hid (wnv kd n k = W) := hW
      have d1 := World.ownsRow.cellAt hrel.out.2.2.1 k (by omega)
      rw [ils_get (by omega), hW] at d1
      have bw := wnv_bounds HKD.out h1 h512
      rw [hW] at bw
      have m1 := prod_bounds (HSg.out.2 k h1) bw
      have i7 := sRound_any (xs k * W) 1073741824
      have e7 : rdV (xs k * W) 1073741824 = tpv kd n xs k := by rw [← hW]; rfl
      rw [e7] at i7
      clear e7 hW
      have hb3 : Below wr.heap.size wr (wr.alloc (.cells #[.int .i64 (tpv kd n xs k)] 3)).drew := (below_one wr _).drew
      have HO3 : Hid ((wr.alloc (.cells #[.int .i64 (tpv kd n xs k)] 3)).drew.ownsRow w.heap.size 3 1 _ k (ils (tpv kd n xs) k)) := own_below hrel.out.1 hb3
      have HF3 : Hid ((wr.alloc (.cells #[.int .i64 (tpv kd n xs k)] 3)).drew.ownsRow w.heap.size 3 1 (.slice (some ⟨gw, 0, none⟩) n capw) n (ils (wnv kd n) n)) := own_below hrel.out.2.2.1 hb3
      have HB3 : Hid (Below w.heap.size w (wr.alloc (.cells #[.int .i64 (tpv kd n xs k)] 3)).drew) := bstep hrel.out.2.1 hb3
      have l0 : Below w.heap.size w wr.drew ∧ wr.drew.cell? ⟨gw, k, none⟩ = some (.int .i64 W) := ⟨hrel.out.2.1.drew, d1⟩
      have l1 : Below w.heap.size w (wr.alloc (.cells #[.int .i64 (tpv kd n xs k)] 3)).drew ∧ (wr.alloc (.cells #[.int .i64 (tpv kd n xs k)] 3)).drew.cell? ⟨gw, k, none⟩ = some (.int .i64 W) := ⟨HB3.out, (hb3.cell (World.block_lt_of_cell? _ _ d1)).trans d1⟩
      clear hb3 d1
      go_upto_region 8 with fail
      refine wp_region_any (by kernel_rfl) ?_
      change wpAny _ _ _ _ _ _ _ (World.drew _)
      refine wpI_any (I := fun X => Below w.heap.size w X ∧ X.cell? ⟨gw, k, none⟩ = some (.int .i64 W)) _ _ _ _ ?_
      refine wpI_take (i := 0) (v := ?_) rfl (by kernel_rfl) (by kernel_rfl) (by kernel_rfl) (fun _ _ _ h => h) ⟨by rfl, ?_⟩ ?_
      rotate_left
      · intro X hI; go_simp; try go_bits
        try rw [if_pos (by omega)]
        try with_reducible rfl
      refine wpI_take (i := 1) (v := ?_) rfl (by kernel_rfl) (by kernel_rfl) (by kernel_rfl) (fun _ _ _ h => h) ⟨by rfl, ?_⟩ ?_
      rotate_left
      · intro X hI; go_simp; try go_bits
        try rw [if_pos (by omega)]
        try with_reducible rfl
      refine wpI_take (i := 2) (v := ?_) rfl (by kernel_rfl) (by kernel_rfl) (by kernel_rfl) (fun _ _ _ h => h) ⟨by rfl, ?_⟩ ?_
      rotate_left
      · intro X hI; go_simp; try go_bits
        try rw [if_pos (by omega)]
        try with_reducible rfl
      refine wpI_take (i := 3) (v := ?_) rfl (by kernel_rfl) (by kernel_rfl) (by kernel_rfl) (fun _ _ _ h => h) ⟨by rfl, ?_⟩ ?_
      rotate_left
      · intro X hI; go_simp; try go_bits
        try rw [if_pos (by omega)]
        try with_reducible rfl
      refine wpI_take (i := 4) (v := ?_) rfl (by kernel_rfl) (by kernel_rfl) (by kernel_rfl) (fun _ _ _ h => h) ⟨by rfl, ?_⟩ ?_
      rotate_left
      · intro X hI; have q1 := (hI.1.cell (p := ⟨b, off + k, none⟩) hlt).trans c; go_simp; try go_bits
        try rw [if_pos (by omega)]
        try with_reducible rfl
      refine wpI_take (i := 5) (v := ?_) rfl (by kernel_rfl) (by kernel_rfl) (by kernel_rfl) (fun _ _ _ h => h) ⟨by rfl, ?_⟩ ?_
      rotate_left
      · intro X hI; go_simp; try go_bits
        try rw [if_pos (by omega)]
        try with_reducible rfl
      refine wpI_take (i := 6) (v := ?_) rfl (by kernel_rfl) (by kernel_rfl) (by kernel_rfl) (fun _ _ _ h => h) ⟨by rfl, ?_⟩ ?_
      rotate_left
      · intro X hI; go_simp; try go_bits
        try rw [if_pos (by omega)]
        try with_reducible rfl
      refine wpI_take (i := 7) (v := ?_) rfl (by kernel_rfl) (by kernel_rfl) (by kernel_rfl) (fun _ _ _ h => h) ⟨by rfl, ?_⟩ ?_
      rotate_left
      · intro X hI; go_simp; try go_bits
        try rw [if_pos (by omega)]
        try with_reducible rfl
      refine wpI_take (i := 8) (v := ?_) rfl (by kernel_rfl) (by kernel_rfl) (by kernel_rfl) (fun _ _ _ h => h) ⟨by rfl, ?_⟩ ?_
      rotate_left
      · intro X hI; have q1 := hI.2; go_simp; try go_bits
        try rw [if_pos (by omega)]
        try with_reducible rfl
      refine wpI_take (i := 9) (v := ?_) rfl (by kernel_rfl) (by kernel_rfl) (by kernel_rfl) (fun _ _ _ h => h) ⟨by rfl, ?_⟩ ?_
      rotate_left
      · intro X hI; go_simp; try go_bits
        try rw [if_pos (by omega)]
        try with_reducible rfl
      refine wpI_only (i := 10) rfl (by kernel_rfl) l0 (by rfl) ?_
      intro K hK
      go_simp
      go_wp2_with (go_at_call 31; (with_reducible refine (i7 _).mono ?_); rintro e w' ⟨rfl, hw⟩; obtain rfl := hw.symm)
      refine wpI_only (i := 11) rfl (by kernel_rfl) l0 (by rfl) ?_
      intro K hK
      go_simp
      try go_bits
      refine hK _ _ ?_
      refine wpI_only (i := 12) rfl (by kernel_rfl) l1 (by rfl) ?_
      intro K hK
      refine wp_app _ _ _ 26 rfl w.heap.size 3 i0 (.int .i64 0) 1 8 Try.underlying26 hi hz0 hz1 hz2 rfl (by decide) _ _ _ rfl HO3.out ⟨wr.heap.size, 0, none⟩ 1 1 [.int .i64 (tpv kd n xs k)] rfl rfl (fun j u h => one_new wr _ 3 j u h) (by simp [Value.oneCell']) (by unfold maxLen; omega) (by omega) HB3.out.size (by decide) ?_
      intro v' w4 hown' hgrow hkeep
      have HB4 : Hid (Below w.heap.size w w4) := grown_below HB3.out (Nat.le_refl _) HO3.out hgrow
      have HA4 : Hid (Apart (.slice (some ⟨gw, 0, none⟩) n capw) v') := apart_app HF3.out hrel.out.2.2.2 (hkeep.elim (fun h => .inl h) (fun h => .inr (by simpa using h.1)))
      have HF4 : Hid (w4.ownsRow w.heap.size 3 1 (.slice (some ⟨gw, 0, none⟩) n capw) n (ils (wnv kd n) n)) := World.ownsRow.kept HF3.out hgrow hrel.out.2.2.2
      have l2 : Below w.heap.size w w4 ∧ w4.cell? ⟨gw, k, none⟩ = some (.int .i64 W) := ⟨HB4.out, by rw [World.ownsRow.cellAt HF4.out k (by omega), ils_get (by omega), HW.out]⟩
      rw [← ils_snoc (tpv kd n xs) k] at hown'
      have HO4 : Hid (w4.ownsRow w.heap.size 3 1 v' (k + 1) (ils (tpv kd n xs) (k + 1))) := hown'
      clear hown' hgrow hkeep
      refine hK _ _ ?_
      refine wpI_only (i := 13) rfl (by kernel_rfl) l2 (by rfl) ?_
      intro K hK
      go_simp
      try go_bits
      refine hK _ _ ?_
      refine wpI_done l2 (by kernel_rfl) ?_ _
      clear l2
      go_wp2
      go_roundw
      case rel => exact ⟨k + 1, by go_num, by omega, HO4.out, HB4.out, HF4.out, HA4.out⟩
      case measure => simp [intOf]; omega
    · obtain rfl : n = k := by omega
      go_wp2
      go_ret2
      exact ⟨_, rfl, hrel.out.1, hrel.out.2.1⟩

set_option maxRecDepth 20000 in
set_option maxHeartbeats 2000000 in
theorem iTap_good {v : Value} {n : Nat} {xs : Nat → Int} {kd : Int} (hg : GP kd n xs) (w : World) (hv : Il w v n xs) : Calls Try.prog 12 #[.int .i64 kd, v] w fun e w' => Pst w w' e n (tpv kd n xs) true := by
  obtain ⟨i0, hi, hz0, hz1, hz2⟩ := info_parts Try.info3
  obtain ⟨hk4, hs⟩ := hg
  have i1 := isWin_any kd
  rw [decide_eq_true hk4] at i1
  have i2 := iSig_any hv (Nat.le_trans hs.1 (by omega))
  rw [decide_eq_true hs] at i2
  have hn2 : n ≤ 512 := hs.1
  have HSg : Hid (Sig n xs) := hs
  have HKD : Hid (kd = 1 ∨ kd = 2 ∨ kd = 3 ∨ kd = 4) := by unfold Hid; omega
  obtain ⟨ao, cap, rfl, hcap, hc⟩ := hv
  have HC : Hid (0 < n → ∃ b off, ao = some ⟨b, off, none⟩ ∧ b < w.heap.size ∧ ∀ k, k < n → w.cell? ⟨b, off + k, none⟩ = some (.int .i64 (xs k))) := hc
  clear hc hs hk4
  obtain ⟨w1, hm, hrow, hgr⟩ := run_makeSlice_full (P := Try.prog) w w.heap.size 26 3 i0 (.int .i64 0) 1 Try.underlying26 hi hz0 hz1 .i64 .i64 n (by omega) (by rw [hz2]; omega) (by unfold maxLen; omega) (Nat.le_refl _)
  have hbl : Below w.heap.size w w1 := (Below.refl _ _).grown hgr (Nat.le_refl _) (fun _ h => by cases h)
  generalize hL : (madeCells (Value.int .i64 0).cells (n * 1)).toList = L at hrow
  have hLn : L.length = n := by rw [← hL, Array.length_toList, size_madeCells, Nat.mul_one]
  clear hL hgr hi hz0 hz1 hz2
  have HR : Hid (w1.ownsRow w.heap.size 3 1 (.slice (some ⟨w.heap.size, 0, none⟩) n n) n L) := hrow
  have HB : Hid (Below w.heap.size w w1) := hbl
  clear hrow hbl
  go_enter Try.func12, Try.ntmps12
  go_wp2_with (first | (go_at_call 24; (with_reducible refine (i1 _).mono ?_); rintro e w' ⟨rfl, hw⟩; obtain rfl := hw.symm) | (go_at_call 25; (with_reducible refine (i2).mono ?_); rintro e w' ⟨rfl, hw⟩; obtain rfl := hw.symm))
  go_loopw [7, 8, 23] (fun _ _ i wr => ∃ k : Nat, i = .int .i64 k ∧ k ≤ n ∧ Hid (wr.ownsRow w.heap.size 3 1 (.slice (some ⟨w.heap.size, 0, none⟩) n n) n (ils (tpv kd n xs) k ++ L.drop k) ∧ Below w.heap.size w wr)) (fun _ _ i _ => n - (intOf i).toNat)
  case atStart => exact ⟨0, rfl, by omega, HR.out, HB.out⟩
  case round =>
    obtain ⟨k, rfl, hk, hrel⟩ := hrel
    by_cases h1 : k < n
    · have HR2 : Hid (wr.ownsRow w.heap.size 3 1 (.slice (some ⟨w.heap.size, 0, none⟩) n n) n (ils (tpv kd n xs) k ++ L.drop k)) := hrel.out.1
      have HB2 : Hid (Below w.heap.size w wr) := hrel.out.2
      clear hrel
      obtain ⟨b, off, rfl, hlt, hcell⟩ := HC.out (by omega)
      have c : wr.cell? ⟨b, off + k, none⟩ = some (.int .i64 (xs k)) := (HB2.out.cell (p := ⟨b, off + k, none⟩) hlt).trans (hcell k h1)
      clear hcell
      have i6 := winAt_any HKD.out h1 hn2
      have bw := wnv_bounds HKD.out h1 hn2
      have m1 := prod_bounds (HSg.out.2 k h1) bw
      have i7 := iRound_any (xs k * wnv kd n k) 1073741824
      have e7 : rdV (xs k * wnv kd n k) 1073741824 = tpv kd n xs k := rfl
      rw [e7] at i7
      clear e7
      generalize wnv kd n k = W at i6 i7 m1 bw
      go_wp2_with (first | (go_at_call 27; (with_reducible refine (i6 _).mono ?_); rintro e w2 ⟨rfl, hb2⟩; have O3 : Hid (w2.ownsRow w.heap.size 3 1 (.slice (some ⟨w.heap.size, 0, none⟩) n n) n (ils (tpv kd n xs) k ++ L.drop k)) := own_below HR2.out hb2; have B3 : Hid (Below w.heap.size w w2) := bstep HB2.out hb2; clear hb2) | (go_at_call 26; (with_reducible refine (i7 _).mono ?_); rintro e w3 ⟨rfl, hb3⟩; have O4 : Hid (w3.ownsRow w.heap.size 3 1 (.slice (some ⟨w.heap.size, 0, none⟩) n n) n (ils (tpv kd n xs) k ++ L.drop k)) := own_below O3.out hb3; have B4 : Hid (Below w.heap.size w w3) := bstep B3.out hb3; clear hb3; have hfz := O4.out.frozenAt k; have hst := O4.out.stored k (.int .i64 (tpv kd n xs k)); have hce := O4.out.cellAt k (by omega); rw [List.getElem?_append_right (by rw [ils_length]; exact Nat.le_refl _), ils_length, Nat.sub_self, List.getElem?_drop, Nat.add_zero, List.getElem?_eq_getElem (by omega)] at hce; rw [ils_set (tpv kd n xs) k L (by omega)] at hst; have HS : Hid _ := hst; clear hst; generalize L[k]'(by omega) = u at hce))
      go_roundw
      case rel => exact ⟨k + 1, by go_num, by omega, HS.out.1, B4.out.setCell (Nat.le_refl _) _⟩
      case measure => simp [intOf]; omega
    · obtain rfl : n = k := by omega
      obtain ⟨hrow, hbl⟩ := hrel.out
      rw [List.drop_eq_nil_of_le (by omega), List.append_nil] at hrow
      have HR2 : Hid (wr.ownsRow w.heap.size 3 1 (.slice (some ⟨w.heap.size, 0, none⟩) n n) n (ils (tpv kd n xs) n)) := hrow
      clear hrow hrel
      go_wp2
      go_ret2
      exact ⟨_, rfl, HR2.out, hbl⟩

set_option maxRecDepth 20000 in
set_option maxHeartbeats 1000000 in
theorem sTap_bad {w : World} {v : Value} {n : Nat} {xs : Nat → Int} {kd : Int} (hv : Il w v n xs) (hn : n ≤ 1048576) (hg : ¬ GP kd n xs) : Calls Try.prog 13 #[.int .i64 kd, v] w fun e w' => ∀ zs, Pst w w' e 0 zs false := by
  refine Calls.mono (R := fun e w' => Pst w w' e 0 (fun _ => 0) false) ?_ (fun e w' h zs => h)
  have i1 := sSig_any (hv.below (below_one w (.cells #[] 3))) hn
  have i2 := in_any kd 1 4
  obtain ⟨ao, cap, rfl, hcap, hc⟩ := hv
  clear hc
  by_cases h1 : Sig n xs
  · rw [decide_eq_true h1] at i1
    have h2 : ¬ (1 ≤ kd ∧ kd ≤ 4) := fun h => hg ⟨h, h1⟩
    rw [decide_eq_false h2] at i2
    clear h1 h2 hg
    go_enter Try.func13, Try.ntmps13
    go_wp2_with (first | (go_at_call 28; (with_reducible refine (i1).mono ?_); rintro e w' ⟨rfl, hw⟩; obtain rfl := hw.symm) | (go_at_call 29; (with_reducible refine (i2 _).mono ?_); rintro e w' ⟨rfl, hw⟩; obtain rfl := hw.symm))
    go_ret2
    exact ⟨_, rfl, own_empty w 3 1, below_one _ _⟩
  · rw [decide_eq_false h1] at i1
    clear h1 hg i2
    go_enter Try.func13, Try.ntmps13
    go_wp2_with (first | (go_at_call 28; (with_reducible refine (i1).mono ?_); rintro e w' ⟨rfl, hw⟩; obtain rfl := hw.symm))
    go_ret2
    exact ⟨_, rfl, own_empty w 3 1, below_one _ _⟩

set_option maxRecDepth 20000 in
set_option maxHeartbeats 1000000 in
theorem iTap_bad {w : World} {v : Value} {n : Nat} {xs : Nat → Int} {kd : Int} (hv : Il w v n xs) (hn : n ≤ 1048576) (hg : ¬ GP kd n xs) : Calls Try.prog 12 #[.int .i64 kd, v] w fun e w' => ∀ zs, Pst w w' e 0 zs false := by
  refine Calls.mono (R := fun e w' => Pst w w' e 0 (fun _ => 0) false) ?_ (fun e w' h zs => h)
  have i1 := isWin_any kd
  have i2 := iSig_any hv hn
  obtain ⟨ao, cap, rfl, hcap, hc⟩ := hv
  clear hc
  by_cases h1 : 1 ≤ kd ∧ kd ≤ 4
  · rw [decide_eq_true h1] at i1
    have h2 : ¬ Sig n xs := fun h => hg ⟨h1, h⟩
    rw [decide_eq_false h2] at i2
    clear h1 h2 hg
    go_enter Try.func12, Try.ntmps12
    go_wp2_with (first | (go_at_call 24; (with_reducible refine (i1 _).mono ?_); rintro e w' ⟨rfl, hw⟩; obtain rfl := hw.symm) | (go_at_call 25; (with_reducible refine (i2).mono ?_); rintro e w' ⟨rfl, hw⟩; obtain rfl := hw.symm))
    go_ret2
    exact ⟨_, rfl, own_empty w 3 1, below_one _ _⟩
  · rw [decide_eq_false h1] at i1
    clear h1 hg i2
    go_enter Try.func12, Try.ntmps12
    go_wp2_with (first | (go_at_call 24; (with_reducible refine (i1 _).mono ?_); rintro e w' ⟨rfl, hw⟩; obtain rfl := hw.symm))
    go_ret2
    exact ⟨_, rfl, own_empty w 3 1, below_one _ _⟩

end Go.Proofs.Ytlagndmhcndnnaa
