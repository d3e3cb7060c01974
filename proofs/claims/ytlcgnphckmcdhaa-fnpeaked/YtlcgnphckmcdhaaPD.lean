/- Peaks: the model, and what is refused. -/
import Derived.Test.YtlcgnphckmcdhaaPC
namespace Go.Proofs.Ytlcgnphckmcdhaa
open Go.RowKit

set_option maxHeartbeats 8000000 in
theorem sPk_good {w : World} {v : Value} {n : Nat} {xs : Nat → Int} {high low : Int} (hv : Il w v n xs) (h : Sig n xs) (hl : low ≤ high) :
    Calls Try.prog 7 #[v, .int .i64 high, .int .i64 low] w fun e w' => Ppk w w' e (pkl high low xs n).length (zf (pkl high low xs n)) true := by
  obtain ⟨i0, hi, hz0, hz1, hz2⟩ := info_parts Try.info31
  have h5 := h.1
  have i2 := sSig_any (hv.below (below_one w (.cells #[] 31))) (by omega)
  rw [decide_eq_true h] at i2
  have OW : Hid ((w.alloc (.cells #[] 31)).ownsRow w.heap.size 31 2 (.slice (some ⟨w.heap.size, 0, none⟩) 0 0) (rwp [] none).length (ils (zf (rwp [] none)) ((rwp [] none).length * 2))) := own_empty w 31 2
  have BL : Hid (Below w.heap.size w (w.alloc (.cells #[] 31))) := below_one _ _
  obtain ⟨ao, cap, rfl, hcap, hc⟩ := hv
  have HC : Hid (0 < n → ∃ b off, ao = some ⟨b, off, none⟩ ∧ b < w.heap.size ∧ ∀ k, k < n → w.cell? ⟨b, off + k, none⟩ = some (.int .i64 (xs k))) := hc
  clear hc h
  go_enter Try.func7, Try.ntmps7
  go_wp2_with (first | (go_at_call 14; (with_reducible refine i2.mono ?_); rintro e w' ⟨rfl, hw⟩; obtain rfl := hw.symm))
  clear i2
  generalize w.alloc (.cells #[] 31) = W at *
  go_loopw [8, 9, 10, 11] (fun o d i _ wr => ∃ (k : Nat) (l : List (Int × Int)) (c : Option (Int × Int)), i = .int .i64 k ∧ d = .bool c.isSome ∧ k ≤ n ∧ Hid (pst high low xs k = (l, c) ∧ wr.ownsRow w.heap.size 31 2 o (rwp l c).length (ils (zf (rwp l c)) ((rwp l c).length * 2)) ∧ Below w.heap.size w wr)) (fun _ _ i _ _ => n - (intOf i).toNat)
  case atStart => exact ⟨0, [], none, rfl, rfl, by omega, rfl, OW.out, BL.out⟩
  case round =>
    obtain ⟨k, l, c, rfl, rfl, hk, hrel⟩ := hrel
    by_cases h1 : k < n
    · obtain ⟨b, off, rfl, hlt, hcell⟩ := HC.out (by omega)
      have c0 := (hrel.out.2.2.cell (p := ⟨b, off + k, none⟩) hlt).trans (hcell k h1)
      have HS : Hid (pst high low xs (k + 1) = pstep high low k (xs k) (l, c)) := by show pst high low xs (k + 1) = _; rw [pst, hrel.out.1]
      have hlen : (rwp l c).length ≤ 512 := by
        have := pst_len high low xs k
        unfold pkl at this
        rw [hrel.out.1] at this
        dsimp only at this
        omega
      have HB : Hid (Below w.heap.size w wr) := hrel.out.2.2
      have HO := hrel.out.2.1
      obtain ⟨x, hx⟩ : ∃ x, x = xs k := ⟨_, rfl⟩
      rw [← hx] at c0 HS
      clear hx hcell hrel
      rcases c with _ | ⟨a, s⟩
      · have HO2 : Hid (wr.ownsRow w.heap.size 31 2 u8 l.length (ils (zf l) (l.length * 2))) := HO
        have hlen2 : l.length ≤ 512 := hlen
        obtain ⟨ao2, cap2, hvv, hcap2, _⟩ := il2_of_own HO2.out
        subst hvv
        clear HO hlen
        by_cases g1 : high ≤ x
        · have HN : Hid (pst high low xs (k + 1) = (l, some ((k : Int), x))) := HS.out.trans (by unfold pstep; exact if_pos g1)
          obtain ⟨m, hm⟩ : ∃ m, m = l.length := ⟨_, rfl⟩
          have HM : Hid (m = l.length) := hm
          rw [← hm] at HO2 hlen2 hcap2 ⊢
          clear HS hm
          have hb3 := below_one wr (.cells #[.int .i64 (k : Int), .int .i64 x] 31)
          have HO3 := own_below HO2.out hb3
          have HB3 := bstep HB.out hb3
          clear hb3
          go_wp2_with (first | (at_builtin; refine wpList_append_own _ rfl _ _ 27 rfl w.heap.size 31 i0 (.agg #[.int .i64 0, .int .i64 0]) 2 16 Try.underlying27 hi hz0 hz1 hz2 rfl (by decide) _ _ _ rfl HO3 ⟨wr.heap.size, 0, none⟩ 1 1 [.int .i64 (k : Int), .int .i64 x] rfl rfl (two_new _ _ _ _) (by simp [Value.oneCell']) (by unfold maxLen; omega) (by omega) HB3.size ?_))
          intro v' w4 hown' hgrow _
          have HB4 : Hid (Below w.heap.size w w4) := grown_below HB3 (Nat.le_refl _) HO3 hgrow
          have HO4 : Hid (w4.ownsRow w.heap.size 31 2 v' (rwp l (some ((k : Int), x))).length (ils (zf (rwp l (some ((k : Int), x)))) ((rwp l (some ((k : Int), x))).length * 2))) := own2_lf HM.out hown'
          obtain ⟨g4, cap4, hv4, hcap4, _⟩ := own2_shape hown'
          subst hv4
          have d1 := World.ownsRow.cellAt hown' (m * 2 + 1) (by omega)
          rw [List.getElem?_append_right (by rw [ils_length]; omega), ils_length, show m * 2 + 1 - m * 2 = 1 by omega] at d1
          have d2 : w4.cell? ⟨g4, m * 2 + 1, none⟩ = some (.int .i64 x) := d1
          clear hown' hgrow HB3 HO3 d1
          go_wp2
          go_roundw
          case rel => exact ⟨k + 1, l, some ((k : Int), x), by go_num, rfl, by omega, HN.out, HO4.out, HB4.out⟩
          case measure => simp [intOf]; omega
        · have HN : Hid (pst high low xs (k + 1) = (l, none)) := HS.out.trans (by unfold pstep; exact if_neg g1)
          clear HS
          go_wp2
          go_roundw
          case rel => exact ⟨k + 1, l, none, by go_num, rfl, by omega, HN.out, HO2.out, HB.out⟩
          case measure => simp [intOf]; omega
      · have HO2 := own2_len HO
        have hlen2 : l.length + 1 ≤ 512 := by have := hlen; rw [rwp, List.length_append, List.length_singleton] at this; exact this
        obtain ⟨g, cap2, hvv, hcap2, hg⟩ := own2_shape HO2
        subst hvv
        have d0 := own2_cell HO2 (j := l.length * 2) (by omega)
        have d1 := own2_cell HO2 (j := l.length * 2 + 1) (by omega)
        rw [zf_1, getD_last] at d1
        have d1' : wr.cell? ⟨g, l.length * 2 + 1, none⟩ = some (.int .i64 s) := d1
        have z0 := World.ownsRow.frozenAt HO2 (l.length * 2)
        have z1 := World.ownsRow.frozenAt HO2 (l.length * 2 + 1)
        have HP : Hid (((wr.setCell ⟨g, l.length * 2, none⟩ (.int .i64 (k : Int))).setCell ⟨g, l.length * 2 + 1, none⟩ (.int .i64 x)).ownsRow w.heap.size 31 2 (.slice (some ⟨g, 0, none⟩) (l.length + 1) cap2) (rwp l (some ((k : Int), x))).length (ils (zf (rwp l (some ((k : Int), x)))) ((rwp l (some ((k : Int), x))).length * 2))) := own2_put HO2 (k : Int) x
        have HP2 : Hid (Below w.heap.size w ((wr.setCell ⟨g, l.length * 2, none⟩ (.int .i64 (k : Int))).setCell ⟨g, l.length * 2 + 1, none⟩ (.int .i64 x))) := (HB.out.setCell (p := ⟨g, l.length * 2, none⟩) hg _).setCell (p := ⟨g, l.length * 2 + 1, none⟩) hg _
        have HQ : Hid (wr.ownsRow w.heap.size 31 2 (.slice (some ⟨g, 0, none⟩) (l.length + 1) cap2) (rwp l (some (a, s))).length (ils (zf (rwp l (some (a, s)))) ((rwp l (some (a, s))).length * 2))) := HO
        clear HO HO2 hlen d1
        by_cases g1 : x < low
        · have HN : Hid (pst high low xs (k + 1) = (l ++ [(a, s)], none)) := HS.out.trans (by unfold pstep; exact if_pos g1)
          clear HS HP HP2 z0 z1 d0 d1'
          obtain ⟨m, hm⟩ : ∃ m, m = l.length := ⟨_, rfl⟩
          rw [← hm] at HQ hlen2 hcap2 ⊢
          clear hm
          go_wp2
          go_roundw
          case rel => exact ⟨k + 1, l ++ [(a, s)], none, by go_num, rfl, by omega, HN.out, HQ.out, HB.out⟩
          case measure => simp [intOf]; omega
        · by_cases g2 : s < x
          · have HN : Hid (pst high low xs (k + 1) = (l, some ((k : Int), x))) := HS.out.trans (show pstep high low k x (l, some (a, s)) = _ from (if_neg g1).trans (if_pos g2))
            clear HS
            obtain ⟨m, hm⟩ : ∃ m, m = l.length := ⟨_, rfl⟩
            rw [← hm] at HP HP2 hlen2 hcap2 d0 d1' z0 z1 ⊢
            clear hm HQ
            generalize zf (l ++ [(a, s)]) (m * 2) = y at d0
            go_wp2
            go_roundw
            case rel => exact ⟨k + 1, l, some ((k : Int), x), by go_num, rfl, by omega, HN.out, HP.out, HP2.out⟩
            case measure => simp [intOf]; omega
          · have HN : Hid (pst high low xs (k + 1) = (l, some (a, s))) := HS.out.trans (show pstep high low k x (l, some (a, s)) = _ from (if_neg g1).trans (if_neg g2))
            clear HS HP HP2 z0 z1 d0
            obtain ⟨m, hm⟩ : ∃ m, m = l.length := ⟨_, rfl⟩
            rw [← hm] at HQ hlen2 hcap2 d1' ⊢
            clear hm
            go_wp2
            go_roundw
            case rel => exact ⟨k + 1, l, some (a, s), by go_num, rfl, by omega, HN.out, HQ.out, HB.out⟩
            case measure => simp [intOf]; omega
    · obtain rfl : n = k := by omega
      have HF : Hid (wr.ownsRow w.heap.size 31 2 u8 (pkl high low xs n).length (ils (zf (pkl high low xs n)) ((pkl high low xs n).length * 2)) ∧ Below w.heap.size w wr) := by
        show _ ∧ _
        unfold pkl
        rw [hrel.out.1]
        exact hrel.out.2
      clear hrel
      go_wp2
      go_ret2
      exact ⟨_, rfl, HF.out⟩

set_option maxHeartbeats 4000000 in
theorem sPk_bad {w : World} {v : Value} {n : Nat} {xs : Nat → Int} {high low : Int} (hv : Il w v n xs) (hn : n ≤ 1048576) (h : ¬ (Sig n xs ∧ low ≤ high)) (ys : Nat → Int) :
    Calls Try.prog 7 #[v, .int .i64 high, .int .i64 low] w fun e w' => Ppk w w' e 0 ys false := by
  have i2 := sSig_any (hv.below (below_one w (.cells #[] 31))) hn
  have OW : Hid ((w.alloc (.cells #[] 31)).ownsRow w.heap.size 31 2 (.slice (some ⟨w.heap.size, 0, none⟩) 0 0) 0 (ils ys (0 * 2))) := own_empty w 31 2
  have BL : Hid (Below w.heap.size w (w.alloc (.cells #[] 31))) := below_one _ _
  obtain ⟨ao, cap, rfl, hcap, hc⟩ := hv
  clear hc
  by_cases h1 : Sig n xs
  · have h2 : ¬ low ≤ high := fun hb => h ⟨h1, hb⟩
    rw [decide_eq_true h1] at i2
    clear h1 h
    go_enter Try.func7, Try.ntmps7
    go_wp2_with (first | (go_at_call 14; (with_reducible refine i2.mono ?_); rintro e w' ⟨rfl, hw⟩; obtain rfl := hw.symm))
    go_ret2
    exact ⟨_, rfl, OW.out, BL.out⟩
  · rw [decide_eq_false h1] at i2
    clear h1 h
    go_enter Try.func7, Try.ntmps7
    go_wp2_with (first | (go_at_call 14; (with_reducible refine i2.mono ?_); rintro e w' ⟨rfl, hw⟩; obtain rfl := hw.symm))
    go_ret2
    exact ⟨_, rfl, OW.out, BL.out⟩

set_option maxHeartbeats 4000000 in
theorem iPk_bad {w : World} {v : Value} {n : Nat} {xs : Nat → Int} {high low : Int} (hv : Il w v n xs) (hn : n ≤ 1048576) (h : ¬ (Sig n xs ∧ low ≤ high)) (ys : Nat → Int) :
    Calls Try.prog 6 #[v, .int .i64 high, .int .i64 low] w fun e w' => Ppk w w' e 0 ys false := by
  have i2 := iSig_any (hv.below (below_one w (.cells #[] 31))) hn
  have OW : Hid ((w.alloc (.cells #[] 31)).ownsRow w.heap.size 31 2 (.slice (some ⟨w.heap.size, 0, none⟩) 0 0) 0 (ils ys (0 * 2))) := own_empty w 31 2
  have BL : Hid (Below w.heap.size w (w.alloc (.cells #[] 31))) := below_one _ _
  obtain ⟨ao, cap, rfl, hcap, hc⟩ := hv
  clear hc
  by_cases h1 : Sig n xs
  · have h2 : ¬ low ≤ high := fun hb => h ⟨h1, hb⟩
    rw [decide_eq_true h1] at i2
    clear h1 h
    go_enter Try.func6, Try.ntmps6
    go_wp2_with (first | (go_at_call 13; (with_reducible refine i2.mono ?_); rintro e w' ⟨rfl, hw⟩; obtain rfl := hw.symm))
    go_ret2
    exact ⟨_, rfl, OW.out, BL.out⟩
  · rw [decide_eq_false h1] at i2
    clear h1 h
    go_enter Try.func6, Try.ntmps6
    go_wp2_with (first | (go_at_call 13; (with_reducible refine i2.mono ?_); rintro e w' ⟨rfl, hw⟩; obtain rfl := hw.symm))
    go_ret2
    exact ⟨_, rfl, OW.out, BL.out⟩

end Go.Proofs.Ytlcgnphckmcdhaa
