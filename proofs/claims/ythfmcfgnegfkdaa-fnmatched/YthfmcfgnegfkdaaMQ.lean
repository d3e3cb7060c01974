/- FnMatched: the law. -/
import Derived.Test.YthfmcfgnegfkdaaMN
namespace Go.Proofs.Ythfmcfgnegfkdaa
open Go.RowKit

set_option maxRecDepth 100000 in
set_option maxHeartbeats 16000000 in
theorem walk_matched {w : World} {a : Option Addr} {len cap : Nat} (hr : Row w a len) (hlen : len ≤ 9223372036854775807) :
    Calls Try.prog 3 #[.slice a len cap] w fun e w' => e = .returned (.bool true) ∧ Below w.heap.size w w' := by
  obtain ⟨i0, hi, hz0, hz1, hz2⟩ := info_parts Try.info3
  have ib := big_x (w := w) a len cap hlen
  by_cases hl : len ≤ 1048576
  · rw [decide_eq_false (by omega)] at ib
    have j0 := dmt_x (cap := cap) hr hl
    clear hr
    go_enter Try.func3, Try.ntmps3
    go_upto_region 4 with (first
      | (go_at_call 4; (with_reducible refine ib.mono ?_); rintro e w' ⟨rfl, hw⟩; obtain rfl := hw.symm)
      | (go_at_call 5; (with_reducible refine j0.mono ?_); rintro e w1 ⟨uv, pv, rfl, hq⟩))
    clear ib j0
    obtain ⟨⟨n, xs, hn, hI⟩, ⟨m, ps, hm, hP⟩, hb⟩ := hq.out
    clear hq
    have B1 : Hid (Below w.heap.size w w1) := hb
    have HI : Hid (Il w1 uv n xs) := hI
    have HP : Hid (Il w1 pv m ps) := hP
    clear hb
    obtain ⟨ao, lcap, rfl, hlcap, _⟩ := hI
    obtain ⟨bo, pcap, rfl, hpcap, _⟩ := hP
    by_cases h : GM n xs m ps
    · obtain ⟨q, rfl⟩ : ∃ q, m = q + 1 := ⟨m - 1, by have := h.2.2.1; omega⟩
      have hqn := h.2.2.2
      have hsg := h.1.1
      obtain ⟨J, hJ⟩ : ∃ J, J = n - (q + 1) + 1 := ⟨_, rfl⟩
      obtain ⟨ds, hds⟩ : ∃ ds : Nat → Int, ds = fun i => dsm ps xs i (q + 1) := ⟨_, rfl⟩
      have I1 : Hid (∀ W u v, Il W u n xs → Il W v (q + 1) ps → Calls Try.prog 6 #[u, v] W fun e w' => Pst W w' e J ds true) := fun W u v hu hv => by rw [hJ, hds]; exact iMatch_good hu hv h
      have I2 : Hid (∀ W u v, Il W u n xs → Il W v (q + 1) ps → Calls Try.prog 7 #[u, v] W fun e w' => Pst W w' e J ds true) := fun W u v hu hv => by rw [hJ, hds]; exact sMatch_good hu hv h
      obtain ⟨R, hR⟩ : ∃ R, R = bsw ds J := ⟨_, rfl⟩
      have I3 : Hid (∀ W u v, Il W u n xs → Il W v (q + 1) ps → Calls Try.prog 8 #[u, v] W fun e w' => e = .returned (.tuple #[.int .i64 (R : Int), .int .i64 (ds R)]) ∧ Below W.heap.size W w') := fun W u v hu hv => by
        have := iBest_good hu hv h hJ
        rw [hR, hds]
        exact this
      have hRJ : R < J := by rw [hR]; exact bsw_lt ds J (by omega)
      have MX : Hid (∀ i, i < J → ds i ≤ ds R) := fun i hi => by rw [hR]; exact bsw_max ds J i hi
      have FF : Hid (∀ i, i < J → fir (q + 1) (fun k => ps (q - k)) (fun _ => 0) xs (i + q) = ds i) := fun i _ => by rw [hds]; exact fir_dsm ps xs i q
      have GG : Hid (GF (q + 1) q n (fun k => ps (q - k)) (fun _ => 0) xs) := ⟨⟨⟨⟨by omega, by omega⟩, fun k hk => h.2.1.2 (q - k) (by omega)⟩, ⟨by omega, fun k _ => (by show -1000000000 ≤ (0 : Int) ∧ (0 : Int) ≤ 1000000000; omega)⟩, rfl⟩, h.1.1⟩
      have hJn : J + q = n := by omega
      have hJ1 : 1 ≤ J := by omega
      obtain ⟨most, hmost⟩ : ∃ x, x = ds R := ⟨_, rfl⟩
      rw [← hmost] at I3 MX
      have HMO : Hid (most = ds R) := hmost
      clear hJ hds hR hmost h hsg
      go_upto_region 12 with (first
        | (go_at_call 6; refine (I1.out _ _ _ HI.out HP.out).mono ?_; rintro e w2 ⟨mv, rfl, ho, hb⟩; have B2 : Hid (Below w1.heap.size w1 w2) := hb; have O2 : Hid (w2.ownsRow w1.heap.size 3 1 mv J (ils ds J)) := ho; obtain ⟨mo, mcap, rfl, hmcap, _⟩ := il_of_own ho; clear ho hb)
        | (go_at_call 7; refine (I2.out _ _ _ (HI.out.below B2.out) (HP.out.below B2.out)).mono ?_; rintro e w3 ⟨sv, rfl, _, hb⟩; have B3 : Hid (Below w1.heap.size w1 w3) := bstep B2.out hb; have O3 : Hid (w3.ownsRow w1.heap.size 3 1 (.slice mo J mcap) J (ils ds J)) := own_below O2.out hb; clear hb)
        | (go_at_call 8; refine (I3.out _ _ _ (HI.out.below B3.out) (HP.out.below B3.out)).mono ?_; rintro e w4 ⟨rfl, hb⟩; have B4 : Hid (Below w1.heap.size w1 w4) := bstep B3.out hb; have O4 : Hid (w4.ownsRow w1.heap.size 3 1 (.slice mo J mcap) J (ils ds J)) := own_below O3.out hb; clear hb))
      have BW4 : Hid (Below w.heap.size w w4) := bstep B1.out B4.out
      have HI4 : Hid (Il w4 (.slice ao n lcap) n xs) := HI.out.below B4.out
      have HP4 : Hid (Il w4 (.slice bo (q + 1) pcap) (q + 1) ps) := HP.out.below B4.out
      have HM4 : Hid (Il w4 (.slice mo J mcap) J ds) := il_of_own O4.out
      clear B1 B2 B3 B4 O2 O3 O4 HI HP I1 I2 I3
      have OW : Hid ((w4.alloc (.cells #[] 3)).ownsRow w4.heap.size 3 1 (.slice (some ⟨w4.heap.size, 0, none⟩) 0 0) 0 (ils (fun k => ps (q - k)) 0)) := own_empty w4 3 1
      have BL : Hid (Below w4.heap.size w4 (w4.alloc (.cells #[] 3))) := below_one _ _
      go_upto_region 14 with fail
      generalize w4.alloc (.cells #[] 3) = W at *
      go_loopw [13, 14] (fun o i wr => ∃ (k : Nat) (x : Int), i = .int .i64 x ∧ k ≤ q + 1 ∧ x = (q : Int) - (k : Int) ∧ Hid (wr.ownsRow w4.heap.size 3 1 o k (ils (fun k => ps (q - k)) k) ∧ Below w4.heap.size w4 wr)) (fun _ i _ => (intOf i + 1).toNat)
      case atStart => exact ⟨0, _, rfl, by omega, by omega, OW.out, BL.out⟩
      case round =>
        obtain ⟨k, x, rfl, hk, hx, hrel⟩ := hrel
        by_cases h1 : k < q + 1
        · obtain ⟨y, rfl⟩ : ∃ y : Nat, x = (y : Int) := ⟨q - k, by omega⟩
          have hy : y = q - k := by omega
          obtain ⟨_, _, hv2, _, hc2⟩ := HP4.out
          cases hv2
          obtain ⟨b2, off2, rfl, hlt2, hcell2⟩ := hc2 (by omega)
          have c := (hrel.out.2.cell (p := ⟨b2, off2 + y, none⟩) hlt2).trans (hcell2 y (by omega))
          obtain ⟨z, hz⟩ : ∃ z, z = ps y := ⟨_, rfl⟩
          rw [← hz] at c
          have ZE : Hid (z = ps (q - k)) := by show z = _; rw [hz, hy]
          clear hc2 hcell2 hz hx
          have HY : Hid (y = q - k) := hy
          have hyq : y ≤ q := by omega
          clear hy
          have hb3 := below_one wr (.cells #[.int .i64 z] 3)
          have HO3 := own_below hrel.out.1 hb3
          have HB3 := bstep hrel.out.2 hb3
          clear hb3 hrel
          go_wp2_with (first | (at_builtin; refine wpList_append_own _ rfl _ _ 24 rfl w4.heap.size 3 i0 (.int .i64 0) 1 8 Try.underlying24 hi hz0 hz1 hz2 rfl (by decide) _ _ _ rfl HO3 ⟨wr.heap.size, 0, none⟩ 1 1 [.int .i64 z] rfl rfl (one_new _ _ _) (by simp [Value.oneCell']) (by unfold maxLen; omega) (by omega) HB3.size ?_))
          intro v' w5 hown' hgrow _
          have HB5 : Hid (Below w4.heap.size w4 w5) := grown_below HB3 (Nat.le_refl _) HO3 hgrow
          rw [ZE.out, ← ils_snoc (fun k => ps (q - k)) k] at hown'
          have HO5 : Hid (w5.ownsRow w4.heap.size 3 1 v' (k + 1) (ils (fun k => ps (q - k)) (k + 1))) := hown'
          clear hown' hgrow HB3 HO3
          go_wp2
          go_roundw
          case rel => exact ⟨k + 1, _, rfl, by omega, by have := HY.out; omega, HO5.out, HB5.out⟩
          case measure => simp [intOf]
        · obtain rfl : q + 1 = k := by omega
          obtain rfl : x = -1 := by omega
          have hrn := mkd_run wr (k := q) (by omega)
          have BM : Hid (Below w4.heap.size w4 (mkd wr q)) := bstep hrel.out.2 (mkd_below _ _)
          have OM : Hid ((mkd wr q).ownsRow wr.heap.size 3 1 (.slice (some ⟨wr.heap.size, 0, none⟩) q q) q (ils (fun _ => 0) q)) := mkd_own wr (by omega) (Nat.le_refl _)
          have TM : Hid (Il (mkd wr q) u13 (q + 1) (fun k => ps (q - k))) := il_of_own (own_below hrel.out.1 (mkd_below _ _))
          have ifr := iFir_good TM.out OM.out (HI4.out.below BM.out) GG.out
          clear hrel
          go_upto_region 21 with (first
            | (go_at_call 10; refine ifr.mono ?_; rintro e w6 ⟨fv, sv6, rfl, hof, _, _, hb⟩; have B6 : Hid (Below w4.heap.size w4 w6) := bstep BM.out hb; have hF := il_of_own hof; obtain ⟨fo, fcap, rfl, hfcap, hfc⟩ := hF; obtain ⟨gf, of_, rfl, hlf, hcf⟩ := hfc (by omega); obtain ⟨_, _, hvm, _, hmc⟩ := HM4.out.below B6.out; (cases hvm); obtain ⟨gm, om, rfl, hlm, hcm⟩ := hmc (by omega); have CMF : Hid ((∀ k, k < J → w6.cell? ⟨gm, om + k, none⟩ = some (.int .i64 (ds k))) ∧ (∀ k, k < J → w6.cell? ⟨gf, of_ + (k + q), none⟩ = some (.int .i64 (ds k)))) := ⟨hcm, fun k hk => by rw [← FF.out k hk]; exact hcf (k + q) (by omega)⟩; have CLT : Hid (gm < w6.heap.size ∧ gf < w6.heap.size) := ⟨hlm, hlf⟩; have cR := hcm R hRJ; (rw [← HMO.out] at cR); have s1 : decide ((R : Int) < 0) = false := (by simp); have s2 : decide ((J : Int) ≤ (R : Int)) = false := (by simp; omega); have s3 : decide (J ≤ R) = false := (by simp; omega); clear hcm hcf hfc hmc; clear hof hb))
          clear ifr hrn
          obtain ⟨cM, cF⟩ := CMF.out
          go_loopw [18] (fun i wx => ∃ k : Nat, i = .int .i64 k ∧ k ≤ J ∧ Hid (Below w6.heap.size w6 wx)) (fun i _ => J - (intOf i).toNat)
          case atStart => exact ⟨0, rfl, by omega, Below.refl _ _⟩
          case round =>
            rename World => V
            obtain ⟨k, rfl, hk, hbl⟩ := hrel
            by_cases h1 : k < J
            · have c1 := (hbl.out.cell (p := ⟨gm, om + k, none⟩) CLT.out.1).trans (cM k h1)
              have c2 := (hbl.out.cell (p := ⟨gf, of_ + (k + q), none⟩) CLT.out.2).trans (cF k h1)
              have hmx := MX.out k h1
              obtain ⟨z, hz⟩ : ∃ z, z = ds k := ⟨_, rfl⟩
              rw [← hz] at c1 c2 hmx
              clear hz
              have e3 : of_ + ((k : Int) + ((q : Int) + 1) - 1).toNat = of_ + (k + q) := by omega
              have e4 : (k : Int) + ((q : Int) + 1) - 1 = ((k + q : Nat) : Int) := by omega
              have s1 : decide (most < z) = false := by simp; omega
              go_wp2_with (go_quiet (fail))
              go_roundw
              case rel => exact ⟨k + 1, by go_num, by omega, below_drewN hbl.out _⟩
              case measure => simp [intOf]; omega
            · obtain rfl : J = k := by omega
              have BE : Hid (Below w.heap.size w V) := bstep (bstep BW4.out B6.out) hbl.out
              have eb : ((J : Int) == (n : Int) - ((q : Int) + 1) + 1) = true := by simp; omega
              go_wp2
              go_ret
              exact ⟨rfl, BE.out⟩
    · have I1 : Hid (∀ W u v, Il W u n xs → Il W v m ps → Calls Try.prog 6 #[u, v] W fun e w' => Pst W w' e 0 (fun _ => 0) false) := fun W u v hu hv => iMatch_bad hu hv (by omega) (by omega) h _
      have I2 : Hid (∀ W u v, Il W u n xs → Il W v m ps → Calls Try.prog 7 #[u, v] W fun e w' => Pst W w' e 0 (fun _ => 0) false) := fun W u v hu hv => sMatch_bad hu hv (by omega) (by omega) h _
      have I3 : Hid (∀ W u v, Il W u n xs → Il W v m ps → Calls Try.prog 8 #[u, v] W fun e w' => e = .returned (.tuple #[.int .i64 (-1), .int .i64 0]) ∧ Below W.heap.size W w') := fun W u v hu hv => iBest_bad hu hv (by omega) (by omega) h
      clear h
      have L2 := lit2
      go_wp2_with (first
        | (go_at_call 6; (fail_if_success have := M4); refine (I1.out _ _ _ HI.out HP.out).mono ?_; rintro e w2 ⟨mv, rfl, _, hb⟩; have B2 : Hid (Below w1.heap.size w1 w2) := hb; clear hb)
        | (go_at_call 7; refine (I2.out _ _ _ (HI.out.below B2.out) (HP.out.below B2.out)).mono ?_; rintro e w3 ⟨sv, rfl, _, hb⟩; have B3 : Hid (Below w1.heap.size w1 w3) := bstep B2.out hb; clear hb)
        | (go_at_call 8; refine (I3.out _ _ _ (HI.out.below B3.out) (HP.out.below B3.out)).mono ?_; rintro e w4 ⟨rfl, hb⟩; have M4 : Hid True := trivial; have B4 : Hid (Below w.heap.size w w4) := bstep B1.out (bstep B3.out hb); clear hb)
        | (go_at_call 6; have ZZ := M4; (with_reducible refine (L2 w4).mono ?_); rintro e w5 ⟨r5, rfl, hI5, hb⟩; have R5 : Hid (Il w5 r5 2 (fun i => [3, 5].getD i 0)) := hI5; have B5 : Hid (Below w.heap.size w w5) := bstep B4.out hb; clear hb hI5)
        | (go_at_call 9; refine (same_yes (R5.out.below (below_one _ _)) (lit_il w5 [3, 5]) (by decide) (fun k _ => rfl)).mono ?_; rintro e w6 ⟨rfl, hb⟩; have B6 : Hid (Below w.heap.size w w6) := bstep (bstep B5.out (below_one _ _)) hb; clear hb))
      go_ret
      exact ⟨rfl, B6.out⟩
  · rw [decide_eq_true (by omega)] at ib
    clear hr
    go_enter Try.func3, Try.ntmps3
    go_wp2_with (first
      | (go_at_call 4; (with_reducible refine ib.mono ?_); rintro e w' ⟨rfl, hw⟩; obtain rfl := hw.symm))
    go_ret
    exact ⟨rfl, Below.refl _ _⟩
end Go.Proofs.Ythfmcfgnegfkdaa
