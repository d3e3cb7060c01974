/- FnBalanced. -/
import Derived.Test.YtlccicbgepfbbaaEG
import Derived.Test.YtlccicbgepfbbaaEE
import Derived.BigRegion
namespace Go.Proofs.Ytlccicbgepfbbaa
open Go.RowKit

set_option maxRecDepth 20000 in
set_option maxHeartbeats 8000000 in
theorem law_x {w : World} {a : Option Addr} {len cap : Nat} (hr : Row w a len) (hl : len ≤ 9223372036854775807) :
    Calls Try.prog 3 #[.slice a len cap] w fun e w' => e = .returned (.bool true) ∧ Below w.heap.size w w' := by
  have HR : Hid (Row w a len) := hr
  have hz := fun W => big_x (w := W) a len cap hl
  clear hr
  by_cases hbig : 1048576 < (len : Int)
  · rw [decide_eq_true hbig] at hz
    clear hbig
    go_enter Try.func3, Try.ntmps3
    go_wp2_with (go_at_call 9; (with_reducible refine (hz _).mono ?_); rintro e w' ⟨rfl, hw⟩; obtain rfl := hw.symm)
    go_ret
    exact ⟨rfl, Below.refl _ _⟩
  · rw [decide_eq_false hbig] at hz
    have HL := line_x (cap := cap) HR.out (by omega)
    clear HR hbig
    go_enter Try.func3, Try.ntmps3
    go_upto_region 4 with (first
      | (go_at_call 9; (with_reducible refine (hz _).mono ?_); rintro e w' ⟨rfl, hw⟩; obtain rfl := hw.symm; clear hz)
      | (go_at_call 10; (with_reducible refine HL.mono ?_); rintro e w1 ⟨n, m, u, ss, rfl, hb, ho, hm⟩; have HB : Hid (Below w.heap.size w w1) := hb; have HO : Hid (w1.ownsRow w.heap.size 31 5 u m (ils (zs ss) (m * 5))) := ho; clear hb ho HL))
    obtain ⟨N, z, c, L, y, d, hc⟩ := cas (m := m) (ss := ss) n (by omega)
    have HC : Hid (Cas n m ss N z c L y d) := hc
    have hbd := hc.bd
    clear hc
    go_upto_region 12 with (first
      | (go_at_call 11; (with_reducible refine (HC.out.iB _ _ (ow_of_own HO.out)).mono ?_); rintro e w1 ⟨u1, rfl, ho, hb⟩; have HB : Hid (Below w.heap.size w w1) := bstep HB.out hb; have HO : Hid (w1.ownsRow w.heap.size 31 5 u m (ils (zs ss) (m * 5))) := own_below HO.out hb; have H1 : Hid (Il w1 u1 N z) := il_of_own ho; clear ho hb)
      | (go_at_call 12; (with_reducible refine (HC.out.iL _ _ (ow_of_own HO.out)).mono ?_); rintro e w1 ⟨u2, rfl, ho, hb⟩; have HB : Hid (Below w.heap.size w w1) := bstep HB.out hb; have HO : Hid (w1.ownsRow w.heap.size 31 5 u m (ils (zs ss) (m * 5))) := own_below HO.out hb; have H1 : Hid (Il w1 u1 N z) := H1.out.below hb; have H2 : Hid (Il w1 u2 L y) := il_of_own ho; clear ho hb)
      | (go_at_call 13; (with_reducible refine (HC.out.sB _ _ (ow_of_own HO.out)).mono ?_); rintro e w1 ⟨u3, rfl, ho, hb⟩; have HB : Hid (Below w.heap.size w w1) := bstep HB.out hb; have HO : Hid (w1.ownsRow w.heap.size 31 5 u m (ils (zs ss) (m * 5))) := own_below HO.out hb; have H1 : Hid (Il w1 u1 N z) := H1.out.below hb; have H2 : Hid (Il w1 u2 L y) := H2.out.below hb; clear ho hb)
      | (go_at_call 14; (with_reducible refine (HC.out.sL _ _ (ow_of_own HO.out)).mono ?_); rintro e w1 ⟨u4, rfl, ho, hb⟩; have HB : Hid (Below w.heap.size w w1) := bstep HB.out hb; have HO : Hid (w1.ownsRow w.heap.size 31 5 u m (ils (zs ss) (m * 5))) := own_below HO.out hb; have H1 : Hid (Il w1 u1 N z) := H1.out.below hb; have H2 : Hid (Il w1 u2 L y) := H2.out.below hb; clear ho hb))
    obtain ⟨ao5, cp5, rfl, hcap5, hc5⟩ := (ow_of_own HO.out).il5
    obtain ⟨ao1, cp1, rfl, hcap1, hc1⟩ := H1.out
    clear hc1 hc5
    have HV : Hid (Il5 w1 (.slice ao5 m cp5) m ss) := (ow_of_own HO.out).il5
    go_upto_region 13 with fail
    go_loopw [13] (fun i wr => ∃ k : Nat, i = .int .i64 k ∧ k ≤ m ∧ Hid (Below w1.heap.size w1 wr)) (fun i _ => m - (intOf i).toNat)
    case atStart => exact ⟨0, rfl, by omega, Below.refl _ _⟩
    case round =>
      obtain ⟨k, rfl, hk, hrel⟩ := hrel
      by_cases hgo : k < m ∧ c = true
      · obtain ⟨hkm, rfl⟩ := hgo
        obtain ⟨p, q, e1, e2, hp, hq, he⟩ := HC.out.pr rfl k hkm
        obtain ⟨_, _, g5, _, hc5⟩ := Il5.below HV.out hrel.out
        injection g5 with g5 _ _
        subst g5
        obtain ⟨b5, o5, rfl, hb5, hcc⟩ := hc5 (by omega)
        obtain ⟨k0, k1, k2, k3, k4⟩ := hcc k hkm
        obtain ⟨_, _, g1, _, hc1⟩ := H1.out.below hrel.out
        injection g1 with g1 _ _
        subst g1
        obtain ⟨b1, o1, rfl, hb1, hc1c⟩ := hc1 (by omega)
        have j0 := hc1c p hp
        have j1 := hc1c q hq
        rw [e1] at k0
        rw [e2] at k1
        clear hcc hc5 hc1 hc1c e1 e2
        go_upto_region 15 with fail
        clear hbd
        go_region
        go_wp2
        go_roundw
        case rel => exact ⟨k + 1, by go_num, by omega, hrel.out.trans ((below_dn wr _).mono hrel.out.size)⟩
        case measure => simp [intOf]; omega
      · by_cases hd : d = true
        · obtain rfl : d = true := hd
          obtain ⟨nn, r, rfl, hw, hr, hK, hN, hz2, hy2⟩ := HC.out.en rfl
          obtain rfl : c = true := HC.out.dc rfl
          obtain rfl : k = m := by
            rcases Nat.lt_or_ge k m with h | h
            · exact absurd ⟨h, rfl⟩ hgo
            · omega
          have f1 : ∀ q, q < L → Fok (nn : Int) k ss y q := by rw [hy2]; exact wend_fok hw hK
          have f2 : ∀ b, b < nn → cnt y L b = r b := by rw [hy2]; exact wend_cnt hw hK
          have f3 : ∀ i, i < k → fh ss y L i = (ss i).ha := by rw [hy2]; exact wend_have hw hr.1 hK
          have f4 : ∀ q, q < L → 0 ≤ y q ∧ y q ≤ (nn : Int) - 1 := fun q hq => (f1 q hq).1
          subst hN hz2
          have G5 : Hid (Ow wr (.slice ao5 k cp5) k ss) := ow_of_own (own_below HO.out hrel.out)
          have G2 : Hid (Il wr _ L y) := H2.out.below hrel.out
          have G1 : Hid (Il wr (.slice ao1 N cp1) N (fun i => (r i : Int))) := H1.out.below hrel.out
          have iF := iFire_good (J := L) (N : Int) (-1) G5.out G2.out hw hbd.2 (Nat.le_refl _) f1 (fun h => absurd h (Nat.lt_irrefl _)) (by rw [if_neg (Nat.lt_irrefl _)])
          have HF3 : Hid (∀ i, i < k → fh ss y L i = (ss i).ha) := f3
          have HF2 : Hid (∀ b, b < N → cnt y L b = r b) := f2
          have HF4 : Hid (∀ q, q < L → 0 ≤ y q ∧ y q ≤ (N : Int) - 1) := f4
          have HW : Hid (Below w.heap.size w wr) := bstep HB.out hrel.out
          clear f1 f2 f3 f4 hy2 hw hr hK hrel hgo
          go_upto_region 21 with (go_at_call 16; (with_reducible refine iF.mono ?_); rintro e w5 ⟨u6, rfl, ho, hb⟩; have HW : Hid (Below w.heap.size w w5) := bstep HW.out hb; have G5 : Hid (Ow w5 (.slice ao5 k cp5) k ss) := G5.out.below hb; have G2 : Hid (Il w5 _ L y) := G2.out.below hb; have G1 : Hid (Il w5 (.slice ao1 N cp1) N (fun i => (r i : Int))) := G1.out.below hb; have G6 : Hid (Il w5 u6 k (fh ss y L)) := il_of_own ho; clear ho hb iF)
          obtain ⟨ao6, cp6, rfl, _, _⟩ := G6.out
          go_upto_region 22 with fail
          go_loopw [18] (fun i wr => ∃ j : Nat, i = .int .i64 j ∧ j ≤ k ∧ Hid (Below w5.heap.size w5 wr)) (fun i _ => k - (intOf i).toNat)
          case atStart => exact ⟨0, rfl, by omega, Below.refl _ _⟩
          case round =>
            obtain ⟨j, rfl, hj, hrel⟩ := hrel
            by_cases hjk : j < k
            · obtain ⟨_, _, g5, _, hc5⟩ := Il5.below G5.out.il5 hrel.out
              injection g5 with g5 _ _
              subst g5
              obtain ⟨b5, o5, rfl, hb5, hcc⟩ := hc5 (by omega)
              obtain ⟨_, _, _, _, k4⟩ := hcc j hjk
              obtain ⟨_, _, g6, _, hc6⟩ := G6.out.below hrel.out
              injection g6 with g6 _ _
              subst g6
              obtain ⟨b6, o6, rfl, hb6, hc6c⟩ := hc6 (by omega)
              have k6 := hc6c j hjk
              rw [HF3.out j hjk] at k6
              clear hcc hc5 hc6 hc6c hbd
              go_upto_region 24 with fail
              go_region
              go_wp2
              go_roundw
              case rel => exact ⟨j + 1, by go_num, by omega, hrel.out.trans ((below_dn wr _).mono hrel.out.size)⟩
              case measure => simp [intOf]; omega
            · have J2 : Hid (Il wr _ L y) := G2.out.below hrel.out
              have J1 : Hid (Il wr (.slice ao1 N cp1) N (fun i => (r i : Int))) := G1.out.below hrel.out
              have JW : Hid (Below w.heap.size w wr) := bstep HW.out hrel.out
              have iT := times_any J2.out hbd.1 hbd.2 HF4.out
              have HE : Hid (∀ b, b < N → (cnt y L b : Int) = (r b : Int)) := fun b hb => by rw [HF2.out b hb]
              go_wp2_with (first
                | (go_at_call 17; (with_reducible refine iT.mono ?_); rintro e w6 ⟨u7, rfl, ho, hb⟩; have JW : Hid (Below w.heap.size w w6) := bstep JW.out hb; have J7 : Hid (Il w6 u7 N (fun b => (cnt y L b : Int))) := ho; have J1 : Hid (Il w6 (.slice ao1 N cp1) N (fun i => (r i : Int))) := J1.out.below hb; clear ho hb iT)
                | (go_at_call 15; (with_reducible refine (same_yes J7.out J1.out (by omega) HE.out).mono ?_); rintro e w7 ⟨rfl, hb⟩; have JW : Hid (Below w.heap.size w w7) := bstep JW.out hb; clear hb))
              go_ret
              exact ⟨rfl, JW.out⟩
        · obtain rfl : d = false := by cases d <;> simp_all
          have e001 : ∀ k, k < 3 → (if k = 2 then (1 : Int) else 0) = ([0, 0, 1] : List Int).getD k 0 := by decide
          by_cases hkm : k < m
          · obtain rfl : c = false := by cases c <;> simp_all
            go_wp2_with (first
              | (go_at_call 12; (with_reducible refine (line_one (ow_wire wr)).mono ?_); rintro e w5 ⟨u5, rfl, ho, hb⟩; have HB5 : Hid (Below wr.heap.size wr w5) := bstep (below_one _ _) hb; have H5 : Hid (Il w5 u5 3 (fun k => if k = 2 then 1 else 0)) := il_of_own ho; clear ho hb)
              | (go_at_call 15; (with_reducible refine (same_yes (H5.out.below (below_one w5 _)) (il_001 w5) (by omega) e001).mono ?_); rintro e w6 ⟨rfl, hb⟩; have HB6 : Hid (Below wr.heap.size wr w6) := bstep (bstep HB5.out (below_one _ _)) hb; clear hb))
            go_ret
            exact ⟨rfl, bstep (bstep HB.out hrel.out) HB6.out⟩
          · go_wp2_with (first
              | (go_at_call 12; (with_reducible refine (line_one (ow_wire wr)).mono ?_); rintro e w5 ⟨u5, rfl, ho, hb⟩; have HB5 : Hid (Below wr.heap.size wr w5) := bstep (below_one _ _) hb; have H5 : Hid (Il w5 u5 3 (fun k => if k = 2 then 1 else 0)) := il_of_own ho; clear ho hb)
              | (go_at_call 15; (with_reducible refine (same_yes (H5.out.below (below_one w5 _)) (il_001 w5) (by omega) e001).mono ?_); rintro e w6 ⟨rfl, hb⟩; have HB6 : Hid (Below wr.heap.size wr w6) := bstep (bstep HB5.out (below_one _ _)) hb; clear hb))
            go_ret
            exact ⟨rfl, bstep (bstep HB.out hrel.out) HB6.out⟩

end Go.Proofs.Ytlccicbgepfbbaa
