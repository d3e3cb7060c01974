/- Window. -/
import Derived.Test.YtlagndmhcndnnaaW5
namespace Go.Proofs.Ytlagndmhcndnnaa
open Go.RowKit

/-- The lesser of three, as the triangle has them. -/
def dmn (n k : Nat) : Int := if 2 * (n : Int) - 2 * k < 2 * k + 2 then (if (n : Int) + 1 < 2 * n - 2 * k then n + 1 else 2 * n - 2 * k) else (if (n : Int) + 1 < 2 * k + 2 then n + 1 else 2 * k + 2)

theorem dmn_bounds {n k : Nat} (h : k < n) (hn : n ≤ 512) : 2 ≤ dmn n k ∧ dmn n k ≤ 513 := by
  unfold dmn
  split <;> split <;> omega

/-- A number of a window. -/
def wnv (kd : Int) (n : Nat) (k : Nat) : Int :=
  if kd = 2 then (1073741824 - cosv (rdV (256 * k) n)).tdiv 2 else if kd = 3 then rdV (1073741824 * dmn n k) (n + 1) else if kd = 4 then rdV (57982058496 - 46 * cosv (rdV (256 * k) n)) 100 else 1073741824

theorem wnv_1 (n k : Nat) : wnv 1 n k = 1073741824 := by unfold wnv; rw [if_neg (by decide), if_neg (by decide), if_neg (by decide)]
theorem wnv_2 (n k : Nat) : wnv 2 n k = (1073741824 - cosv (rdV (256 * k) n)).tdiv 2 := by unfold wnv; rw [if_pos rfl]
theorem wnv_3 (n k : Nat) : wnv 3 n k = rdV (1073741824 * dmn n k) (n + 1) := by unfold wnv; rw [if_neg (by decide), if_pos rfl]
theorem wnv_4 (n k : Nat) : wnv 4 n k = rdV (57982058496 - 46 * cosv (rdV (256 * k) n)) 100 := by unfold wnv; rw [if_neg (by decide), if_neg (by decide), if_pos rfl]

theorem half_bounds7 {c : Int} (h : -1073741824 ≤ c ∧ c ≤ 1073741824) : -2 ≤ (1073741824 - c).tdiv 2 ∧ (1073741824 - c).tdiv 2 ≤ 1073741825 := by
  have := tdiv_bounds (a := 1073741824 - c) (b := 2) (M := 2147483648) (by decide) (by omega) (by omega) (by decide)
  have e : (1073741824 - c).tdiv 2 = (1073741824 - c) / 2 := Int.tdiv_eq_ediv_of_nonneg (by omega)
  omega

theorem run_min3 (P : Program) (ts : Array TypeId) (t : TypeId) (x y z m : Int) (w : World) (hm : (if z < (if y < x then y else x) then z else (if y < x then y else x)) = m) : (Builtin.min_ ts t #[.int .i64 x, .int .i64 y, .int .i64 z]).run P w = .ok (.int .i64 m) w := by
  simp [Builtin.min_, Builtin.min2, hm]

set_option maxHeartbeats 1000000 in
theorem winAt_any {kd : Int} {n k : Nat} (hkd : kd = 1 ∨ kd = 2 ∨ kd = 3 ∨ kd = 4) (hk : k < n) (hn : n ≤ 512) (w : World) : Calls Try.prog 27 #[.int .i64 kd, .int .i64 k, .int .i64 n] w fun e w' => e = .returned (.int .i64 (wnv kd n k)) ∧ Below w.heap.size w w' := by
  have i1 := iRound_any (256 * (k : Int)) n
  have i2 := iCos_any (rdV (256 * (k : Int)) n)
  have bc := cosv_bounds (rdV (256 * (k : Int)) n)
  rcases hkd with rfl | rfl | rfl | rfl
  · rw [wnv_1]
    generalize cosv (rdV (256 * (k : Int)) n) = c at i2 bc
    generalize rdV (256 * (k : Int)) n = r at i1 i2
    go_enter Try.func27, Try.ntmps27
    go_wp2_with (first | (go_at_call 26; (with_reducible refine (i1 _).mono ?_); rintro e w1 ⟨rfl, hb1⟩) | (go_at_call 7; (with_reducible refine (i2 _).mono ?_); rintro e w2 ⟨rfl, hb2⟩))
    go_ret
    exact ⟨rfl, bstep hb1 hb2⟩
  · rw [wnv_2]
    generalize cosv (rdV (256 * (k : Int)) n) = c at i2 bc ⊢
    generalize rdV (256 * (k : Int)) n = r at i1 i2
    have bh := half_bounds7 bc
    go_enter Try.func27, Try.ntmps27
    go_wp2_with (first | (go_at_call 26; (with_reducible refine (i1 _).mono ?_); rintro e w1 ⟨rfl, hb1⟩) | (go_at_call 7; (with_reducible refine (i2 _).mono ?_); rintro e w2 ⟨rfl, hb2⟩))
    go_ret
    exact ⟨rfl, bstep hb1 hb2⟩
  · rw [wnv_3]
    have i3 := iRound_any (1073741824 * dmn n k) ((n : Int) + 1)
    have bd := dmn_bounds hk hn
    have hm : ∀ W, (Builtin.min_ #[3, 3, 3] 3 #[.int .i64 (2 * (k : Int) + 2), .int .i64 (2 * (n : Int) - 2 * (k : Int)), .int .i64 ((n : Int) + 1)]).run Try.prog W = .ok (.int .i64 (dmn n k)) W := fun W => run_min3 _ _ _ _ _ _ _ _ (by unfold dmn; split <;> split <;> first | rfl | omega)
    generalize rdV (1073741824 * dmn n k) ((n : Int) + 1) = R at i3 ⊢
    generalize dmn n k = d at i3 bd hm
    generalize cosv (rdV (256 * (k : Int)) n) = c at i2 bc
    generalize rdV (256 * (k : Int)) n = r at i1 i2
    go_enter Try.func27, Try.ntmps27
    go_wp2_with (first | (go_at_call 26; (with_reducible refine (i1 _).mono ?_); rintro e w1 ⟨rfl, hb1⟩) | (go_at_call 26; (with_reducible refine (i3 _).mono ?_); rintro e w3 ⟨rfl, hb3⟩) | (go_at_call 7; (with_reducible refine (i2 _).mono ?_); rintro e w2 ⟨rfl, hb2⟩))
    go_ret
    exact ⟨rfl, bstep (bstep hb1 hb2) hb3⟩
  · rw [wnv_4]
    have i3 := iRound_any (57982058496 - 46 * cosv (rdV (256 * (k : Int)) n)) 100
    generalize rdV (57982058496 - 46 * cosv (rdV (256 * (k : Int)) n)) 100 = R at i3 ⊢
    generalize cosv (rdV (256 * (k : Int)) n) = c at i2 i3 bc
    generalize rdV (256 * (k : Int)) n = r at i1 i2
    go_enter Try.func27, Try.ntmps27
    go_wp2_with (first | (go_at_call 26; (with_reducible refine (i1 _).mono ?_); rintro e w1 ⟨rfl, hb1⟩) | (go_at_call 26; (with_reducible refine (i3 _).mono ?_); rintro e w3 ⟨rfl, hb3⟩) | (go_at_call 7; (with_reducible refine (i2 _).mono ?_); rintro e w2 ⟨rfl, hb2⟩))
    go_ret
    exact ⟨rfl, bstep (bstep hb1 hb2) hb3⟩

theorem isWin_any (c : Int) (w : World) : Calls Try.prog 24 #[.int .i64 c] w fun e w' => e = .returned (.bool (decide (1 ≤ c ∧ c ≤ 4))) ∧ w' = w := by
  go_enter Try.func24, Try.ntmps24
  by_cases h : 1 ≤ c
  · by_cases h1 : c ≤ 4
    · go_wp2
      go_ret
      exact ⟨by simp [h, h1], rfl⟩
    · go_wp2
      go_ret
      exact ⟨by simp [h1], rfl⟩
  · go_wp2
    go_ret
    exact ⟨by simp; omega, rfl⟩

/-- Good for Window. -/
abbrev GW (kd n : Int) : Prop := (1 ≤ kd ∧ kd ≤ 4) ∧ 1 ≤ n ∧ n ≤ 512

set_option maxRecDepth 20000 in
set_option maxHeartbeats 2000000 in
theorem iWin_good {kd : Int} {n : Nat} (hg : GW kd n) (w : World) : Calls Try.prog 14 #[.int .i64 kd, .int .i64 n] w fun e w' => Pst w w' e n (wnv kd n) true := by
  obtain ⟨i0, hi, hz0, hz1, hz2⟩ := info_parts Try.info3
  have hkd : kd = 1 ∨ kd = 2 ∨ kd = 3 ∨ kd = 4 := by have := hg.1; omega
  obtain ⟨hk4, hn0, hn1⟩ := hg
  have i1 := isWin_any kd
  rw [decide_eq_true hk4] at i1
  have hn2 : n ≤ 512 := by omega
  have HK : Hid _ := hkd
  clear hk4 hkd
  obtain ⟨w1, hm, hrow, hgr⟩ := run_makeSlice_full (P := Try.prog) w w.heap.size 26 3 i0 (.int .i64 0) 1 Try.underlying26 hi hz0 hz1 .i64 .i64 n (by omega) (by rw [hz2]; omega) (by unfold maxLen; omega) (Nat.le_refl _)
  have hbl : Below w.heap.size w w1 := (Below.refl _ _).grown hgr (Nat.le_refl _) (fun _ h => by cases h)
  generalize hL : (madeCells (Value.int .i64 0).cells (n * 1)).toList = L at hrow
  have hLn : L.length = n := by rw [← hL, Array.length_toList, size_madeCells, Nat.mul_one]
  clear hL hgr hi hz0 hz1 hz2
  have HR : Hid (w1.ownsRow w.heap.size 3 1 (.slice (some ⟨w.heap.size, 0, none⟩) n n) n L) := hrow
  have HB : Hid (Below w.heap.size w w1) := hbl
  clear hrow hbl
  go_enter Try.func14, Try.ntmps14
  go_wp2_with (first | (go_at_call 24; (with_reducible refine (i1 _).mono ?_); rintro e w' ⟨rfl, hw⟩; obtain rfl := hw.symm))
  go_loopw [7, 23] (fun _ i wr => ∃ k : Nat, i = .int .i64 k ∧ k ≤ n ∧ Hid (wr.ownsRow w.heap.size 3 1 (.slice (some ⟨w.heap.size, 0, none⟩) n n) n (ils (wnv kd n) k ++ L.drop k) ∧ Below w.heap.size w wr)) (fun _ i _ => n - (intOf i).toNat)
  case atStart => exact ⟨0, rfl, by omega, HR.out, HB.out⟩
  case round =>
    obtain ⟨k, rfl, hk, hrel⟩ := hrel
    by_cases h1 : k < n
    · have HR2 : Hid (wr.ownsRow w.heap.size 3 1 (.slice (some ⟨w.heap.size, 0, none⟩) n n) n (ils (wnv kd n) k ++ L.drop k)) := hrel.out.1
      have HB2 : Hid (Below w.heap.size w wr) := hrel.out.2
      clear hrel
      have i6 := winAt_any HK.out h1 hn2
      go_wp2_with (first | (go_at_call 27; (with_reducible refine (i6 _).mono ?_); rintro e w3 ⟨rfl, hb3⟩; have O4 : Hid (w3.ownsRow w.heap.size 3 1 (.slice (some ⟨w.heap.size, 0, none⟩) n n) n (ils (wnv kd n) k ++ L.drop k)) := own_below HR2.out hb3; have B4 : Hid (Below w.heap.size w w3) := bstep HB2.out hb3; clear hb3; have hfz := O4.out.frozenAt k; have hst := O4.out.stored k (.int .i64 (wnv kd n k)); have hce := O4.out.cellAt k (by omega); rw [List.getElem?_append_right (by rw [ils_length]; exact Nat.le_refl _), ils_length, Nat.sub_self, List.getElem?_drop, Nat.add_zero, List.getElem?_eq_getElem (by omega)] at hce; rw [ils_set (wnv kd n) k L (by omega)] at hst; have HS : Hid _ := hst; clear hst; generalize L[k]'(by omega) = u at hce))
      go_roundw
      case rel => exact ⟨k + 1, by go_num, by omega, HS.out.1, B4.out.setCell (Nat.le_refl _) _⟩
      case measure => simp [intOf]; omega
    · obtain rfl : n = k := by omega
      obtain ⟨hrow, hbl⟩ := hrel.out
      rw [List.drop_eq_nil_of_le (by omega), List.append_nil] at hrow
      have HR2 : Hid (wr.ownsRow w.heap.size 3 1 (.slice (some ⟨w.heap.size, 0, none⟩) n n) n (ils (wnv kd n) n)) := hrow
      clear hrow hrel
      go_wp2
      go_ret2
      exact ⟨_, rfl, HR2.out, hbl⟩

set_option maxRecDepth 20000 in
set_option maxHeartbeats 2000000 in
theorem sWin_good {kd : Int} {n : Nat} (hg : GW kd n) (w : World) : Calls Try.prog 30 #[.int .i64 kd, .int .i64 n] w fun e w' => Pst w w' e n (wnv kd n) true := by
  obtain ⟨i0, hi, hz0, hz1, hz2⟩ := info_parts Try.info3
  have hkd : kd = 1 ∨ kd = 2 ∨ kd = 3 ∨ kd = 4 := by have := hg.1; omega
  obtain ⟨hk4, hn0, hn1⟩ := hg
  have i1 := in_any kd 1 4
  have i2 := in_any n 1 512
  rw [decide_eq_true hk4] at i1
  rw [decide_eq_true ⟨hn0, hn1⟩] at i2
  clear hk4
  have i5 := all_own
  go_enter Try.func30, Try.ntmps30
  go_wp2_with (first | (go_at_call 29; (with_reducible refine (i1 _).mono ?_); rintro e w' ⟨rfl, hw⟩; obtain rfl := hw.symm) | (go_at_call 29; (with_reducible refine (i2 _).mono ?_); rintro e w' ⟨rfl, hw⟩; obtain rfl := hw.symm) | (go_at_call 19; (refine (i5 _).mono ?_); rintro e w1 ⟨v1, rfl, hv1, hb1⟩; have F1 : Hid (w1.ownsRow w.heap.size 3 1 v1 65 (ils ct 65)) := own_base hv1 (by simp); have A1 : Hid (Apart v1 (.slice (some ⟨w.heap.size, 0, none⟩) 0 0)) := apart_base hv1 (g := w.heap.size) rfl (by simp); have O1 : Hid (w1.ownsRow w.heap.size 3 1 (.slice (some ⟨w.heap.size, 0, none⟩) 0 0) 0 []) := own_below (own_empty w 3 1) hb1; have B1 : Hid (Below w.heap.size w w1) := bstep (below_one _ _) hb1; clear hv1 hb1))
  go_loopw [6, 8] (fun o i wr => ∃ k : Nat, i = .int .i64 k ∧ k ≤ n ∧ Hid (wr.ownsRow w.heap.size 3 1 o k (ils (wnv kd n) k) ∧ Below w.heap.size w wr ∧ wr.ownsRow w.heap.size 3 1 v1 65 (ils ct 65) ∧ Apart v1 o)) (fun _ i _ => n - (intOf i).toNat)
  case atStart => exact ⟨0, rfl, by omega, O1.out, B1.out, F1.out, A1.out⟩
  case round =>
    obtain ⟨k, rfl, hk, hrel⟩ := hrel
    by_cases h1 : k < n
    · skip
      have i6 := sRound_any (256 * (k : Int)) n
      have i7 := at_any (il_of_own hrel.out.2.2.1) (rdV (256 * (k : Int)) n)
      have bc := cosv_bounds (rdV (256 * (k : Int)) n)
      have bd := dmn_bounds h1 (by omega)
      have kk : Hid (kd = 1 ∨ kd = 2 ∨ kd = 3 ∨ kd = 4) := hkd
      clear hkd
      rcases kk.out with rfl | rfl | rfl | rfl
      · obtain ⟨V, hV⟩ : ∃ V, wnv 1 n k = V := ⟨_, rfl⟩
        have HV : Hid (wnv 1 n k = V) := hV
        rw [wnv_1] at hV
        subst hV
        generalize cosv (rdV (256 * (k : Int)) n) = c at i7 bc
        generalize rdV (256 * (k : Int)) n = r at i6 i7
        have hb3 := below_one wr (.cells #[.int .i64 1073741824] 3)
        have HO3 := own_below hrel.out.1 hb3
        have HB3 := bstep hrel.out.2.1 hb3
        have HF3 := own_below hrel.out.2.2.1 hb3
        clear hb3
        go_wp2_with (first | (go_at_call 31; (with_reducible refine (i6 _).mono ?_); rintro e w' ⟨rfl, hw⟩; obtain rfl := hw.symm) | (go_at_call 31; (with_reducible refine (i8 _).mono ?_); rintro e w' ⟨rfl, hw⟩; obtain rfl := hw.symm) | (go_at_call 18; (with_reducible refine (i7).mono ?_); rintro e w' ⟨rfl, hw⟩; obtain rfl := hw.symm) | (at_builtin; refine wpList_app _ rfl _ _ 26 rfl w.heap.size 3 i0 (.int .i64 0) 1 8 Try.underlying26 hi hz0 hz1 hz2 rfl (by decide) _ _ _ rfl HO3 ⟨wr.heap.size, 0, none⟩ 1 1 [.int .i64 (1073741824)] rfl rfl (one_new _ _ _) (by simp [Value.oneCell']) (by unfold maxLen; omega) (by omega) HB3.size (by decide) ?_))
        intro v' w4 hown' hgrow hkeep
        have HA4 : Hid (Apart v1 v') := apart_app HF3 hrel.out.2.2.2 (hkeep.elim (fun h => .inl h) (fun h => .inr (by simpa using h.1)))
        have HF4 : Hid (w4.ownsRow w.heap.size 3 1 v1 65 (ils ct 65)) := World.ownsRow.kept HF3 hgrow hrel.out.2.2.2
        have HB4 : Hid (Below w.heap.size w w4) := grown_below HB3 (Nat.le_refl _) HO3 hgrow
        rw [← HV.out, ← ils_snoc (wnv 1 n) k] at hown'
        have HO4 : Hid (w4.ownsRow w.heap.size 3 1 v' (k + 1) (ils (wnv 1 n) (k + 1))) := hown'
        clear hown' hgrow HB3 HO3 HF3 hkeep
        go_wp2
        go_roundw
        case rel => exact ⟨k + 1, by go_num, by omega, HO4.out, HB4.out, HF4.out, HA4.out⟩
        case measure => simp [intOf]; omega
      · obtain ⟨V, hV⟩ : ∃ V, wnv 2 n k = V := ⟨_, rfl⟩
        have HV : Hid (wnv 2 n k = V) := hV
        rw [wnv_2] at hV
        have bh := half_bounds7 bc
        generalize cosv (rdV (256 * (k : Int)) n) = c at i7 bc bh hV
        generalize rdV (256 * (k : Int)) n = r at i6 i7
        subst hV
        have hb3 := below_one wr (.cells #[.int .i64 ((1073741824 - c).tdiv 2)] 3)
        have HO3 := own_below hrel.out.1 hb3
        have HB3 := bstep hrel.out.2.1 hb3
        have HF3 := own_below hrel.out.2.2.1 hb3
        clear hb3
        go_wp2_with (first | (go_at_call 31; (with_reducible refine (i6 _).mono ?_); rintro e w' ⟨rfl, hw⟩; obtain rfl := hw.symm) | (go_at_call 31; (with_reducible refine (i8 _).mono ?_); rintro e w' ⟨rfl, hw⟩; obtain rfl := hw.symm) | (go_at_call 18; (with_reducible refine (i7).mono ?_); rintro e w' ⟨rfl, hw⟩; obtain rfl := hw.symm) | (at_builtin; refine wpList_app _ rfl _ _ 26 rfl w.heap.size 3 i0 (.int .i64 0) 1 8 Try.underlying26 hi hz0 hz1 hz2 rfl (by decide) _ _ _ rfl HO3 ⟨wr.heap.size, 0, none⟩ 1 1 [.int .i64 (((1073741824 - c).tdiv 2))] rfl rfl (one_new _ _ _) (by simp [Value.oneCell']) (by unfold maxLen; omega) (by omega) HB3.size (by decide) ?_))
        intro v' w4 hown' hgrow hkeep
        have HA4 : Hid (Apart v1 v') := apart_app HF3 hrel.out.2.2.2 (hkeep.elim (fun h => .inl h) (fun h => .inr (by simpa using h.1)))
        have HF4 : Hid (w4.ownsRow w.heap.size 3 1 v1 65 (ils ct 65)) := World.ownsRow.kept HF3 hgrow hrel.out.2.2.2
        have HB4 : Hid (Below w.heap.size w w4) := grown_below HB3 (Nat.le_refl _) HO3 hgrow
        rw [← HV.out, ← ils_snoc (wnv 2 n) k] at hown'
        have HO4 : Hid (w4.ownsRow w.heap.size 3 1 v' (k + 1) (ils (wnv 2 n) (k + 1))) := hown'
        clear hown' hgrow HB3 HO3 HF3 hkeep
        go_wp2
        go_roundw
        case rel => exact ⟨k + 1, by go_num, by omega, HO4.out, HB4.out, HF4.out, HA4.out⟩
        case measure => simp [intOf]; omega
      · by_cases ha : 2 * (n : Int) - 2 * k < 2 * k + 2
        · by_cases hb : (n : Int) + 1 < 2 * n - 2 * k
          · omega
          · obtain ⟨V, hV⟩ : ∃ V, wnv 3 n k = V := ⟨_, rfl⟩
            have HV : Hid (wnv 3 n k = V) := hV
            have i8 := sRound_any (1073741824 * dmn n k) ((n : Int) + 1)
            rw [wnv_3] at hV
            rw [hV] at i8
            generalize cosv (rdV (256 * (k : Int)) n) = c at i7 bc
            generalize rdV (256 * (k : Int)) n = r at i6 i7
            have ed : dmn n k = 2 * (n : Int) - 2 * k := by unfold dmn; rw [if_pos ha, if_neg hb]
            rw [ed] at i8 bd
            clear hV
            have hb3 := below_one wr (.cells #[.int .i64 V] 3)
            have HO3 := own_below hrel.out.1 hb3
            have HB3 := bstep hrel.out.2.1 hb3
            have HF3 := own_below hrel.out.2.2.1 hb3
            clear hb3
            go_wp2_with (first | (go_at_call 31; (with_reducible refine (i6 _).mono ?_); rintro e w' ⟨rfl, hw⟩; obtain rfl := hw.symm) | (go_at_call 31; (with_reducible refine (i8 _).mono ?_); rintro e w' ⟨rfl, hw⟩; obtain rfl := hw.symm) | (go_at_call 18; (with_reducible refine (i7).mono ?_); rintro e w' ⟨rfl, hw⟩; obtain rfl := hw.symm) | (at_builtin; refine wpList_app _ rfl _ _ 26 rfl w.heap.size 3 i0 (.int .i64 0) 1 8 Try.underlying26 hi hz0 hz1 hz2 rfl (by decide) _ _ _ rfl HO3 ⟨wr.heap.size, 0, none⟩ 1 1 [.int .i64 (V)] rfl rfl (one_new _ _ _) (by simp [Value.oneCell']) (by unfold maxLen; omega) (by omega) HB3.size (by decide) ?_))
            intro v' w4 hown' hgrow hkeep
            have HA4 : Hid (Apart v1 v') := apart_app HF3 hrel.out.2.2.2 (hkeep.elim (fun h => .inl h) (fun h => .inr (by simpa using h.1)))
            have HF4 : Hid (w4.ownsRow w.heap.size 3 1 v1 65 (ils ct 65)) := World.ownsRow.kept HF3 hgrow hrel.out.2.2.2
            have HB4 : Hid (Below w.heap.size w w4) := grown_below HB3 (Nat.le_refl _) HO3 hgrow
            rw [← HV.out, ← ils_snoc (wnv 3 n) k] at hown'
            have HO4 : Hid (w4.ownsRow w.heap.size 3 1 v' (k + 1) (ils (wnv 3 n) (k + 1))) := hown'
            clear hown' hgrow HB3 HO3 HF3 hkeep
            go_wp2
            go_roundw
            case rel => exact ⟨k + 1, by go_num, by omega, HO4.out, HB4.out, HF4.out, HA4.out⟩
            case measure => simp [intOf]; omega
        · by_cases hb : (n : Int) + 1 < 2 * k + 2
          · omega
          · obtain ⟨V, hV⟩ : ∃ V, wnv 3 n k = V := ⟨_, rfl⟩
            have HV : Hid (wnv 3 n k = V) := hV
            have i8 := sRound_any (1073741824 * dmn n k) ((n : Int) + 1)
            rw [wnv_3] at hV
            rw [hV] at i8
            generalize cosv (rdV (256 * (k : Int)) n) = c at i7 bc
            generalize rdV (256 * (k : Int)) n = r at i6 i7
            have ed : dmn n k = 2 * (k : Int) + 2 := by unfold dmn; rw [if_neg ha, if_neg hb]
            rw [ed] at i8 bd
            clear hV
            have hb3 := below_one wr (.cells #[.int .i64 V] 3)
            have HO3 := own_below hrel.out.1 hb3
            have HB3 := bstep hrel.out.2.1 hb3
            have HF3 := own_below hrel.out.2.2.1 hb3
            clear hb3
            go_wp2_with (first | (go_at_call 31; (with_reducible refine (i6 _).mono ?_); rintro e w' ⟨rfl, hw⟩; obtain rfl := hw.symm) | (go_at_call 31; (with_reducible refine (i8 _).mono ?_); rintro e w' ⟨rfl, hw⟩; obtain rfl := hw.symm) | (go_at_call 18; (with_reducible refine (i7).mono ?_); rintro e w' ⟨rfl, hw⟩; obtain rfl := hw.symm) | (at_builtin; refine wpList_app _ rfl _ _ 26 rfl w.heap.size 3 i0 (.int .i64 0) 1 8 Try.underlying26 hi hz0 hz1 hz2 rfl (by decide) _ _ _ rfl HO3 ⟨wr.heap.size, 0, none⟩ 1 1 [.int .i64 (V)] rfl rfl (one_new _ _ _) (by simp [Value.oneCell']) (by unfold maxLen; omega) (by omega) HB3.size (by decide) ?_))
            intro v' w4 hown' hgrow hkeep
            have HA4 : Hid (Apart v1 v') := apart_app HF3 hrel.out.2.2.2 (hkeep.elim (fun h => .inl h) (fun h => .inr (by simpa using h.1)))
            have HF4 : Hid (w4.ownsRow w.heap.size 3 1 v1 65 (ils ct 65)) := World.ownsRow.kept HF3 hgrow hrel.out.2.2.2
            have HB4 : Hid (Below w.heap.size w w4) := grown_below HB3 (Nat.le_refl _) HO3 hgrow
            rw [← HV.out, ← ils_snoc (wnv 3 n) k] at hown'
            have HO4 : Hid (w4.ownsRow w.heap.size 3 1 v' (k + 1) (ils (wnv 3 n) (k + 1))) := hown'
            clear hown' hgrow HB3 HO3 HF3 hkeep
            go_wp2
            go_roundw
            case rel => exact ⟨k + 1, by go_num, by omega, HO4.out, HB4.out, HF4.out, HA4.out⟩
            case measure => simp [intOf]; omega
      · obtain ⟨V, hV⟩ : ∃ V, wnv 4 n k = V := ⟨_, rfl⟩
        have HV : Hid (wnv 4 n k = V) := hV
        have i8 := sRound_any (57982058496 - 46 * cosv (rdV (256 * (k : Int)) n)) 100
        rw [wnv_4] at hV
        rw [hV] at i8
        generalize cosv (rdV (256 * (k : Int)) n) = c at i7 i8 bc hV
        generalize rdV (256 * (k : Int)) n = r at i6 i7
        clear hV
        have hb3 := below_one wr (.cells #[.int .i64 V] 3)
        have HO3 := own_below hrel.out.1 hb3
        have HB3 := bstep hrel.out.2.1 hb3
        have HF3 := own_below hrel.out.2.2.1 hb3
        clear hb3
        go_wp2_with (first | (go_at_call 31; (with_reducible refine (i6 _).mono ?_); rintro e w' ⟨rfl, hw⟩; obtain rfl := hw.symm) | (go_at_call 31; (with_reducible refine (i8 _).mono ?_); rintro e w' ⟨rfl, hw⟩; obtain rfl := hw.symm) | (go_at_call 18; (with_reducible refine (i7).mono ?_); rintro e w' ⟨rfl, hw⟩; obtain rfl := hw.symm) | (at_builtin; refine wpList_app _ rfl _ _ 26 rfl w.heap.size 3 i0 (.int .i64 0) 1 8 Try.underlying26 hi hz0 hz1 hz2 rfl (by decide) _ _ _ rfl HO3 ⟨wr.heap.size, 0, none⟩ 1 1 [.int .i64 (V)] rfl rfl (one_new _ _ _) (by simp [Value.oneCell']) (by unfold maxLen; omega) (by omega) HB3.size (by decide) ?_))
        intro v' w4 hown' hgrow hkeep
        have HA4 : Hid (Apart v1 v') := apart_app HF3 hrel.out.2.2.2 (hkeep.elim (fun h => .inl h) (fun h => .inr (by simpa using h.1)))
        have HF4 : Hid (w4.ownsRow w.heap.size 3 1 v1 65 (ils ct 65)) := World.ownsRow.kept HF3 hgrow hrel.out.2.2.2
        have HB4 : Hid (Below w.heap.size w w4) := grown_below HB3 (Nat.le_refl _) HO3 hgrow
        rw [← HV.out, ← ils_snoc (wnv 4 n) k] at hown'
        have HO4 : Hid (w4.ownsRow w.heap.size 3 1 v' (k + 1) (ils (wnv 4 n) (k + 1))) := hown'
        clear hown' hgrow HB3 HO3 HF3 hkeep
        go_wp2
        go_roundw
        case rel => exact ⟨k + 1, by go_num, by omega, HO4.out, HB4.out, HF4.out, HA4.out⟩
        case measure => simp [intOf]; omega
    · obtain rfl : k = n := by omega
      go_wp2
      go_ret2
      exact ⟨_, rfl, hrel.out.1, hrel.out.2.1⟩

set_option maxRecDepth 20000 in
set_option maxHeartbeats 1000000 in
theorem sWin_bad {kd n : Int} (hg : ¬ GW kd n) (w : World) : Calls Try.prog 30 #[.int .i64 kd, .int .i64 n] w fun e w' => ∀ zs, Pst w w' e 0 zs false := by
  refine Calls.mono (R := fun e w' => Pst w w' e 0 (fun _ => 0) false) ?_ (fun e w' h zs => h)
  have i1 := in_any kd 1 4
  have i2 := in_any n 1 512
  by_cases h1 : 1 ≤ kd ∧ kd ≤ 4
  · rw [decide_eq_true h1] at i1
    have h2 : ¬ (1 ≤ n ∧ n ≤ 512) := fun h => hg ⟨h1, h⟩
    rw [decide_eq_false h2] at i2
    clear h1 h2 hg
    go_enter Try.func30, Try.ntmps30
    go_wp2_with (first | (go_at_call 29; (with_reducible refine (i1 _).mono ?_); rintro e w' ⟨rfl, hw⟩; obtain rfl := hw.symm) | (go_at_call 29; (with_reducible refine (i2 _).mono ?_); rintro e w' ⟨rfl, hw⟩; obtain rfl := hw.symm))
    go_ret2
    exact ⟨_, rfl, own_empty w 3 1, below_one _ _⟩
  · rw [decide_eq_false h1] at i1
    clear h1 hg i2
    go_enter Try.func30, Try.ntmps30
    go_wp2_with (first | (go_at_call 29; (with_reducible refine (i1 _).mono ?_); rintro e w' ⟨rfl, hw⟩; obtain rfl := hw.symm) | (go_at_call 29; (with_reducible refine (i2 _).mono ?_); rintro e w' ⟨rfl, hw⟩; obtain rfl := hw.symm))
    go_ret2
    exact ⟨_, rfl, own_empty w 3 1, below_one _ _⟩

set_option maxRecDepth 20000 in
set_option maxHeartbeats 1000000 in
theorem iWin_bad {kd n : Int} (hg : ¬ GW kd n) (w : World) : Calls Try.prog 14 #[.int .i64 kd, .int .i64 n] w fun e w' => ∀ zs, Pst w w' e 0 zs false := by
  refine Calls.mono (R := fun e w' => Pst w w' e 0 (fun _ => 0) false) ?_ (fun e w' h zs => h)
  have i1 := isWin_any kd
  by_cases h1 : 1 ≤ kd ∧ kd ≤ 4
  · rw [decide_eq_true h1] at i1
    by_cases h2 : n < 1
    · clear hg h1
      go_enter Try.func14, Try.ntmps14
      go_wp2_with (first | (go_at_call 24; (with_reducible refine (i1 _).mono ?_); rintro e w' ⟨rfl, hw⟩; obtain rfl := hw.symm))
      go_ret2
      exact ⟨_, rfl, own_empty w 3 1, below_one _ _⟩
    · have h3 : 512 < n := by omega
      clear hg h1
      go_enter Try.func14, Try.ntmps14
      go_wp2_with (first | (go_at_call 24; (with_reducible refine (i1 _).mono ?_); rintro e w' ⟨rfl, hw⟩; obtain rfl := hw.symm))
      go_ret2
      exact ⟨_, rfl, own_empty w 3 1, below_one _ _⟩
  · rw [decide_eq_false h1] at i1
    clear h1 hg
    go_enter Try.func14, Try.ntmps14
    go_wp2_with (first | (go_at_call 24; (with_reducible refine (i1 _).mono ?_); rintro e w' ⟨rfl, hw⟩; obtain rfl := hw.symm))
    go_ret2
    exact ⟨_, rfl, own_empty w 3 1, below_one _ _⟩

end Go.Proofs.Ytlagndmhcndnnaa
