/- The transform: the model's walk. -/
import Derived.Test.YtabdondefoldaaaDoorR3
namespace Go.Proofs.YtabdondefoldaaaDoor
open Go.RowKit

set_option maxRecDepth 20000 in
set_option maxHeartbeats 4000000 in
theorem sDft_any {w : World} {v : Value} {n : Nat} {xs : Nat → Int} {p : Int} {back : Bool} (hv : Il w v n xs) (hn : n ≤ 1048576) (N : Nat) (ys : Nat → Int) (ok : Bool)
    (hg : GF n xs p → N = n ∧ ys = dft xs n (dW n p back) (dB n p back) p ∧ ok = true) (hb : ¬ GF n xs p → N = 0 ∧ ok = false) :
    Calls Tryd.prog 22 #[v, .int .i64 p, .bool back] w fun e w' => Pst w w' e N ys ok := by
  obtain ⟨i0, hi, hz0, hz1, hz2⟩ := info_parts Tryd.info3
  have HG : Hid (GF n xs p → N = n ∧ ys = dft xs n (dW n p back) (dB n p back) p ∧ ok = true) := hg
  have HB : Hid (¬ GF n xs p → N = 0 ∧ ok = false) := hb
  clear hg hb
  have i1 := sPrm_any p
  have i3 := sWhl_any n
  by_cases hp : Prm p
  · rw [decide_eq_true hp] at i1
    have hpb := hp.bounds
    have i2 := sRow_any (w := w) (p := p) (by omega) hv hn
    obtain ⟨ao, cap, rfl, hcap, hc⟩ := hv
    have HC : Hid (0 < n → ∃ b off, ao = some ⟨b, off, none⟩ ∧ b < w.heap.size ∧ ∀ k, k < n → w.cell? ⟨b, off + k, none⟩ = some (.int .i64 (xs k))) := hc
    clear hc
    by_cases hr : Rwp n xs p
    · rw [decide_eq_true hr] at i2
      by_cases hw : Whl n
      · rw [decide_eq_true hw] at i3
        obtain ⟨eN, ey, eo⟩ := HG.out ⟨hp, hr, hw⟩
        subst ey eo
        obtain rfl := eN.symm
        have hnb := hw.bounds
        have HR : Hid (∀ k, k < n → 0 ≤ xs k ∧ xs k ≤ p - 1) := hr.2
        obtain ⟨W, hW⟩ : ∃ W, W = dW n p back := ⟨_, rfl⟩
        obtain ⟨BY, hBY⟩ : ∃ BY, BY = dB n p back := ⟨_, rfl⟩
        have bW : 0 ≤ W ∧ W < p := by rw [hW]; exact dW_bounds hp back
        have bB : 0 ≤ BY ∧ BY < p := by rw [hBY]; exact dB_bounds hp back
        have i4 := sUnit_any n p
        have i5 := sInv_any (unV n p) p
        have i6 := sInv_any n p
        rw [show dft xs n (dW n p back) (dB n p back) p = dft xs n W BY p by rw [hW, hBY]]
        clear hr HG HB
        have one_p : (1 : Int) % p = 1 := Int.emod_eq_of_lt (by omega) (by omega)
        have HP : Hid (Prm p) := hp
        have OP : Hid ((1 : Int) % p = 1) := one_p
        clear hp hw one_p
        cases back
        · simp only [dW, dB, Bool.false_eq_true, if_false] at hW hBY
          rw [← hW] at i4
          subst hBY
          clear hW i5 i6
          go_enter Tryd.func22, Tryd.ntmps22
          go_wp2_with (first | (go_at_call 36; (with_reducible refine (i1 _).mono ?_); rintro e w' ⟨rfl, hw⟩; obtain rfl := hw.symm) | (go_at_call 37; (with_reducible refine (i2).mono ?_); rintro e w' ⟨rfl, hw⟩; obtain rfl := hw.symm) | (go_at_call 21; (with_reducible refine (i3 _).mono ?_); rintro e w' ⟨rfl, hw⟩; obtain rfl := hw.symm) | (go_at_call 38; (with_reducible refine (i4 _).mono ?_); rintro e w' ⟨rfl, hw⟩; obtain rfl := hw.symm))
          go_loopw [11, 12, 13, 14, 15, 16] (fun o wkv kv _ _ _ wr => ∃ (k : Nat) (WK : Int), kv = .int .i64 k ∧ wkv = .int .i64 WK ∧ k ≤ n ∧ (0 ≤ WK ∧ WK < p) ∧ Hid (WK = W ^ k % p ∧ wr.ownsRow w.heap.size 3 1 o k (ils (dft xs n W 1 p) k) ∧ Below w.heap.size w wr)) (fun _ _ kv _ _ _ _ => n - (intOf kv).toNat)
          case atStart => exact ⟨0, 1, rfl, rfl, by omega, by omega, by rw [Int.pow_zero, OP.out], own_empty w 3 1, below_one _ _⟩
          case round =>
            obtain ⟨k, WK, rfl, rfl, hk, bK, hrel⟩ := hrel
            have hrel_ := hrel
            by_cases h1 : k < n
            · go_wp2
              go_loopw [14, 15, 16] (fun sv xv iv wr2 => ∃ (i : Nat) (S X : Int), iv = .int .i64 i ∧ sv = .int .i64 S ∧ xv = .int .i64 X ∧ i ≤ n ∧ (0 ≤ S ∧ S < p) ∧ (0 ≤ X ∧ X < p) ∧ wr2 = wr ∧ Hid (S = dsum xs W k i % p ∧ X = W ^ (k * i) % p)) (fun _ _ iv _ => n - (intOf iv).toNat)
              case atStart => exact ⟨0, 0, 1, rfl, rfl, rfl, by omega, by omega, by omega, rfl, by simp [dsum], by rw [Nat.mul_zero, Int.pow_zero, OP.out]⟩
              case round =>
                obtain ⟨i, S, X, rfl, rfl, rfl, hik, bS, bX, hw2, hSX⟩ := hrel
                obtain rfl := hw2.symm
                by_cases h2 : i < n
                · obtain ⟨b, off, rfl, hlt, hcell⟩ := HC.out (by omega)
                  have c : wr.cell? ⟨b, off + i, none⟩ = some (.int .i64 (xs i)) := (hrel_.out.2.2.cell (p := ⟨b, off + i, none⟩) hlt).trans (hcell i h2)
                  clear hcell
                  have r1 := HR.out i h2
                  have m1 := mul_lt (a := xs i) (b := X) (p := p) r1.1 (by omega) bX.1 bX.2 hpb.2
                  have m2 := mul_lt (a := X) (b := WK) (p := p) bX.1 bX.2 bK.1 bK.2 hpb.2
                  have q1 := Int.emod_nonneg (S + xs i * X) (show p ≠ 0 by omega)
                  have q2 := Int.emod_lt_of_pos (S + xs i * X) (show 0 < p by omega)
                  have q3 := Int.emod_nonneg (X * WK) (show p ≠ 0 by omega)
                  have q4 := Int.emod_lt_of_pos (X * WK) (show 0 < p by omega)
                  have E1 : Hid ((S + xs i * X) % p = dsum xs W k (i + 1) % p) := by
                    show (S + xs i * X) % p = _
                    rw [hSX.out.1, hSX.out.2, step_s]
                  have E2 : Hid (X * WK % p = W ^ (k * (i + 1)) % p) := by
                    show X * WK % p = _
                    rw [hSX.out.2, hrel_.out.1, step_x]
                  clear hSX
                  go_wp2
                  go_roundw
                  case rel => exact ⟨i + 1, _, _, by go_num, rfl, rfl, by omega, ⟨q1, q2⟩, ⟨q3, q4⟩, by trivial, E1.out, E2.out⟩
                  case measure => simp [intOf]; omega
                · obtain rfl : i = n := by omega
                  have m3 := mul_lt (a := S) (b := 1) (p := p) bS.1 bS.2 (by omega) (by omega) hpb.2
                  have m4 := mul_lt (a := WK) (b := W) (p := p) bK.1 bK.2 bW.1 bW.2 hpb.2
                  have q5 := Int.emod_nonneg (WK * W) (show p ≠ 0 by omega)
                  have q6 := Int.emod_lt_of_pos (WK * W) (show 0 < p by omega)
                  have ED : Hid (S % p = dft xs i W 1 p k) := by
                    show S % p = dsum xs W k i % p * 1 % p
                    rw [hSX.out.1, Int.mul_one]
                  have EW : Hid (WK * W % p = W ^ (k + 1) % p) := by
                    show WK * W % p = _
                    rw [hrel_.out.1, step_w]
                  obtain ⟨V, hV⟩ : ∃ V, S % p = V := ⟨_, rfl⟩
                  have HV : Hid (V = dft xs i W 1 p k) := hV.symm.trans ED.out
                  have hb3 := below_one wr (.cells #[.int .i64 V] 3)
                  have HO3 := own_below hrel_.out.2.1 hb3
                  have HB3 := bstep hrel_.out.2.2 hb3
                  clear hb3 ED
                  go_wp2_with (at_builtin; refine wpList_append_own _ rfl _ _ 29 rfl w.heap.size 3 i0 (.int .i64 0) 1 8 Tryd.underlying29 hi hz0 hz1 hz2 rfl (by decide) _ _ _ rfl HO3 ⟨wr.heap.size, 0, none⟩ 1 1 [.int .i64 V] rfl rfl (one_new _ _ _) (by simp [Value.oneCell']) (by unfold maxLen; omega) (by omega) HB3.size ?_)
                  intro v' w4 hown' hgrow _
                  have HB4 : Hid _ := grown_below HB3 (Nat.le_refl _) HO3 hgrow
                  rw [HV.out, ← ils_snoc (dft xs i W 1 p) k] at hown'
                  have HO4 : Hid _ := hown'
                  clear hown' hgrow HB3 HO3
                  go_wp2
                  go_roundw
                  case rel => exact ⟨k + 1, _, by go_num, rfl, by omega, ⟨q5, q6⟩, EW.out, HO4.out, HB4.out⟩
                  case measure => simp [intOf]; omega
            · obtain rfl : k = n := by omega
              go_wp2
              go_ret2
              exact ⟨_, rfl, hrel.out.2.1, hrel.out.2.2⟩
        · simp only [dW, dB, if_true] at hW hBY
          rw [← hW] at i5
          rw [← hBY] at i6
          generalize unV n p = U at i4 i5
          clear hW hBY
          go_enter Tryd.func22, Tryd.ntmps22
          go_wp2_with (first | (go_at_call 36; (with_reducible refine (i1 _).mono ?_); rintro e w' ⟨rfl, hw⟩; obtain rfl := hw.symm) | (go_at_call 37; (with_reducible refine (i2).mono ?_); rintro e w' ⟨rfl, hw⟩; obtain rfl := hw.symm) | (go_at_call 21; (with_reducible refine (i3 _).mono ?_); rintro e w' ⟨rfl, hw⟩; obtain rfl := hw.symm) | (go_at_call 38; (with_reducible refine (i4 _).mono ?_); rintro e w' ⟨rfl, hw⟩; obtain rfl := hw.symm) | (go_at_call 39; (with_reducible refine (i5 _).mono ?_); rintro e w' ⟨rfl, hw⟩; obtain rfl := hw.symm) | (go_at_call 39; (with_reducible refine (i6 _).mono ?_); rintro e w' ⟨rfl, hw⟩; obtain rfl := hw.symm))
          go_loopw [11, 12, 13, 14, 15, 16] (fun o wkv kv _ _ _ wr => ∃ (k : Nat) (WK : Int), kv = .int .i64 k ∧ wkv = .int .i64 WK ∧ k ≤ n ∧ (0 ≤ WK ∧ WK < p) ∧ Hid (WK = W ^ k % p ∧ wr.ownsRow w.heap.size 3 1 o k (ils (dft xs n W BY p) k) ∧ Below w.heap.size w wr)) (fun _ _ kv _ _ _ _ => n - (intOf kv).toNat)
          case atStart => exact ⟨0, 1, rfl, rfl, by omega, by omega, by rw [Int.pow_zero, OP.out], own_empty w 3 1, below_one _ _⟩
          case round =>
            obtain ⟨k, WK, rfl, rfl, hk, bK, hrel⟩ := hrel
            have hrel_ := hrel
            by_cases h1 : k < n
            · go_wp2
              go_loopw [14, 15, 16] (fun sv xv iv wr2 => ∃ (i : Nat) (S X : Int), iv = .int .i64 i ∧ sv = .int .i64 S ∧ xv = .int .i64 X ∧ i ≤ n ∧ (0 ≤ S ∧ S < p) ∧ (0 ≤ X ∧ X < p) ∧ wr2 = wr ∧ Hid (S = dsum xs W k i % p ∧ X = W ^ (k * i) % p)) (fun _ _ iv _ => n - (intOf iv).toNat)
              case atStart => exact ⟨0, 0, 1, rfl, rfl, rfl, by omega, by omega, by omega, rfl, by simp [dsum], by rw [Nat.mul_zero, Int.pow_zero, OP.out]⟩
              case round =>
                obtain ⟨i, S, X, rfl, rfl, rfl, hik, bS, bX, hw2, hSX⟩ := hrel
                obtain rfl := hw2.symm
                by_cases h2 : i < n
                · obtain ⟨b, off, rfl, hlt, hcell⟩ := HC.out (by omega)
                  have c : wr.cell? ⟨b, off + i, none⟩ = some (.int .i64 (xs i)) := (hrel_.out.2.2.cell (p := ⟨b, off + i, none⟩) hlt).trans (hcell i h2)
                  clear hcell
                  have r1 := HR.out i h2
                  have m1 := mul_lt (a := xs i) (b := X) (p := p) r1.1 (by omega) bX.1 bX.2 hpb.2
                  have m2 := mul_lt (a := X) (b := WK) (p := p) bX.1 bX.2 bK.1 bK.2 hpb.2
                  have q1 := Int.emod_nonneg (S + xs i * X) (show p ≠ 0 by omega)
                  have q2 := Int.emod_lt_of_pos (S + xs i * X) (show 0 < p by omega)
                  have q3 := Int.emod_nonneg (X * WK) (show p ≠ 0 by omega)
                  have q4 := Int.emod_lt_of_pos (X * WK) (show 0 < p by omega)
                  have E1 : Hid ((S + xs i * X) % p = dsum xs W k (i + 1) % p) := by
                    show (S + xs i * X) % p = _
                    rw [hSX.out.1, hSX.out.2, step_s]
                  have E2 : Hid (X * WK % p = W ^ (k * (i + 1)) % p) := by
                    show X * WK % p = _
                    rw [hSX.out.2, hrel_.out.1, step_x]
                  clear hSX
                  go_wp2
                  go_roundw
                  case rel => exact ⟨i + 1, _, _, by go_num, rfl, rfl, by omega, ⟨q1, q2⟩, ⟨q3, q4⟩, by trivial, E1.out, E2.out⟩
                  case measure => simp [intOf]; omega
                · obtain rfl : i = n := by omega
                  have m3 := mul_lt (a := S) (b := BY) (p := p) bS.1 bS.2 (by omega) (by omega) hpb.2
                  have m4 := mul_lt (a := WK) (b := W) (p := p) bK.1 bK.2 bW.1 bW.2 hpb.2
                  have q5 := Int.emod_nonneg (WK * W) (show p ≠ 0 by omega)
                  have q6 := Int.emod_lt_of_pos (WK * W) (show 0 < p by omega)
                  have ED : Hid (S * BY % p = dft xs i W BY p k) := by
                    show S * BY % p = dsum xs W k i % p * BY % p
                    rw [hSX.out.1]
                  have EW : Hid (WK * W % p = W ^ (k + 1) % p) := by
                    show WK * W % p = _
                    rw [hrel_.out.1, step_w]
                  obtain ⟨V, hV⟩ : ∃ V, S * BY % p = V := ⟨_, rfl⟩
                  have HV : Hid (V = dft xs i W BY p k) := hV.symm.trans ED.out
                  have hb3 := below_one wr (.cells #[.int .i64 V] 3)
                  have HO3 := own_below hrel_.out.2.1 hb3
                  have HB3 := bstep hrel_.out.2.2 hb3
                  clear hb3 ED
                  go_wp2_with (at_builtin; refine wpList_append_own _ rfl _ _ 29 rfl w.heap.size 3 i0 (.int .i64 0) 1 8 Tryd.underlying29 hi hz0 hz1 hz2 rfl (by decide) _ _ _ rfl HO3 ⟨wr.heap.size, 0, none⟩ 1 1 [.int .i64 V] rfl rfl (one_new _ _ _) (by simp [Value.oneCell']) (by unfold maxLen; omega) (by omega) HB3.size ?_)
                  intro v' w4 hown' hgrow _
                  have HB4 : Hid _ := grown_below HB3 (Nat.le_refl _) HO3 hgrow
                  rw [HV.out, ← ils_snoc (dft xs i W BY p) k] at hown'
                  have HO4 : Hid _ := hown'
                  clear hown' hgrow HB3 HO3
                  go_wp2
                  go_roundw
                  case rel => exact ⟨k + 1, _, by go_num, rfl, by omega, ⟨q5, q6⟩, EW.out, HO4.out, HB4.out⟩
                  case measure => simp [intOf]; omega
            · obtain rfl : k = n := by omega
              go_wp2
              go_ret2
              exact ⟨_, rfl, hrel.out.2.1, hrel.out.2.2⟩
      · rw [decide_eq_false hw] at i3
        obtain ⟨rfl, rfl⟩ := HB.out (fun h => hw h.2.2)
        clear hw hr hp
        go_enter Tryd.func22, Tryd.ntmps22
        go_wp2_with (first | (go_at_call 36; (with_reducible refine (i1 _).mono ?_); rintro e w' ⟨rfl, hw⟩; obtain rfl := hw.symm) | (go_at_call 37; (with_reducible refine (i2).mono ?_); rintro e w' ⟨rfl, hw⟩; obtain rfl := hw.symm) | (go_at_call 21; (with_reducible refine (i3 _).mono ?_); rintro e w' ⟨rfl, hw⟩; obtain rfl := hw.symm))
        go_ret2
        exact ⟨_, rfl, own_empty w 3 1, below_one _ _⟩
    · rw [decide_eq_false hr] at i2
      obtain ⟨rfl, rfl⟩ := HB.out (fun h => hr h.2.1)
      clear hr hp
      go_enter Tryd.func22, Tryd.ntmps22
      go_wp2_with (first | (go_at_call 36; (with_reducible refine (i1 _).mono ?_); rintro e w' ⟨rfl, hw⟩; obtain rfl := hw.symm) | (go_at_call 37; (with_reducible refine (i2).mono ?_); rintro e w' ⟨rfl, hw⟩; obtain rfl := hw.symm))
      go_ret2
      exact ⟨_, rfl, own_empty w 3 1, below_one _ _⟩
  · rw [decide_eq_false hp] at i1
    obtain ⟨ao, cap, rfl, hcap, hc⟩ := hv
    clear hc
    obtain ⟨rfl, rfl⟩ := HB.out (fun h => hp h.1)
    clear hp
    go_enter Tryd.func22, Tryd.ntmps22
    go_wp2_with ((go_at_call 36; (with_reducible refine (i1 _).mono ?_); rintro e w' ⟨rfl, hw⟩; obtain rfl := hw.symm))
    go_ret2
    exact ⟨_, rfl, own_empty w 3 1, below_one _ _⟩
end Go.Proofs.YtabdondefoldaaaDoor
