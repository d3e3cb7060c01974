/- Basis of the program. -/
import Derived.Test.YtnfhnchomiejcaaBD
namespace Go.Proofs.Ytnfhnchomiejcaa
open Go.RowKit

theorem wdf_put {R : Nat → Nat → Int} {Lf : Nat → Int} {c q p n : Nat} (hp : p = (Lf q).toNat) : ils (fun i => if i = p then R q c else wdf R Lf c q i) n = ils (wdf R Lf c (q + 1)) n := by
  refine ils_congr fun i _ => ?_
  show _ = if i = (Lf q).toNat then R q c else wdf R Lf c q i
  rw [← hp]

/-- What both sides stand on ahead of the words. -/
structure Rdy (w2 : World) (lo hi : Nat) (o ld : Value) (M n : Nat) (S : Gj) : Prop where
  rows : RG w2 lo o M n S.R
  lead : w2.ownsRow lo 3 1 ld S.L.length (ils (lf S.L) S.L.length)
  size : w2.heap.size ≤ hi

theorem Rdy.fix {w2 w3 : World} {lo hi : Nat} {o ld : Value} {M n : Nat} {S : Gj} (h : Rdy w2 lo hi o ld M n S) (hf : Fix lo hi w2 w3) : RG w3 lo o M n S.R ∧ w3.ownsRow lo 3 1 ld S.L.length (ils (lf S.L) S.L.length) := by
  obtain ⟨gs, cs, hr⟩ := h.rows
  exact ⟨⟨gs, cs, hf.rgr hr (Nat.le_refl _) h.size⟩, hf.own h.lead (Nat.le_refl _) h.size⟩

set_option maxRecDepth 20000 in
set_option maxHeartbeats 4000000 in
theorem iBasis_good {w : World} {v : Value} {M n : Nat} {ms : Nat → Nat} {X : Nat → Nat → Int} (hv : Ipp w v M ms X) (hk : Cks M ms X (n : Int)) (S : Gj) (hS : S = gj M (fun i => r0 (X i) (ms i)) n) :
    Calls Try.prog 10 #[v, .int .i64 (n : Int)] w fun e w' => Psr w w' e (bsl S n).length n (wf (bsl S n)) true := by
  have hn := hk.1.1
  have hM := hk.1.2
  have bl := below_one w (.cells #[] 29)
  have i1 := iChecks_any (n := (n : Int)) (hv.below bl) (by omega) (fun k hk' => by have := (hk.2 k hk').1.2; omega)
  rw [yb_yes hk] at i1
  have i2 := rowsOf_any (n := n) (hv.below bl) hk
  have hgi := gi_all (M := M) (n := n) (R0 := fun i => r0 (X i) (ms i)) (fun i k _ _ => r0_bit _ _ _) n (Nat.le_refl _)
  rw [← hS] at hgi
  have HG : Hid (Gi M n n S) := hgi
  have hlm : S.L.length ≤ M := hgi.len
  have HRW : Hid (Rgr (w.alloc (.cells #[] 29)) w.heap.size (.slice (some ⟨w.heap.size, 0, none⟩) 0 0) (bsl S 0).length n (fun _ => 0) (fun _ => 0) (wf (bsl S 0))) := Rgr.start w n _ _ _
  have HSZ : Hid ((w.alloc (.cells #[] 29)).heap.size = w.heap.size + 1) := by show _ = _; simp
  have HBL : Hid (Below w.heap.size w (w.alloc (.cells #[] 29))) := bl
  have HRD : Hid (∀ w1 o, RG w1 (w.alloc (.cells #[] 29)).heap.size o M n (fun i => r0 (X i) (ms i)) → (w.alloc (.cells #[] 29)).heap.size ≤ w1.heap.size → Calls Try.prog 32 #[o, .int .i64 (n : Int)] w1 fun e w' => ∃ u, e = .returned u ∧ RG w' (w.alloc (.cells #[] 29)).heap.size o M n S.R ∧ w'.ownsRow (w.alloc (.cells #[] 29)).heap.size 3 1 u S.L.length (ils (lf S.L) S.L.length) ∧ Below (w.alloc (.cells #[] 29)).heap.size w1 w') := by
    intro w1 o ho hsz
    obtain ⟨gs, cs, hr⟩ := ho
    obtain ⟨ao, cap, rfl, hcap, hag⟩ := hr.open
    rcases Nat.eq_zero_or_pos M with h0 | h0
    · have hao : ao = none → cap = 0 := fun e => by
        rcases hr.row.2 with ⟨h', _⟩ | ⟨g', cap', cur, h', _⟩
        · injection h'
        · rw [e] at h'; cases h'
      subst h0
      refine (reduce_zero hao (by omega)).mono ?_
      rintro e w' ⟨u, rfl, hu, hb⟩
      rw [gj_zero] at hS
      refine ⟨u, rfl, ⟨gs, cs, ?_⟩, ?_, hb.mono hsz⟩
      · have := hr.call hb
        rw [hS]
        exact this
      · rw [hS]
        exact own_base hu hsz
    · obtain ⟨g, rfl⟩ := hag h0
      refine (reduce_any hr (fun i k _ _ => r0_bit _ _ _) (by omega) ⟨h0, hM⟩ hsz).mono ?_
      rintro e w' ⟨u, rfl, h2, h3, h4⟩
      rw [← hS] at h2 h3
      exact ⟨u, rfl, h2, own_base h3 hsz, h4⟩
  clear hk hS hv bl hgi
  go_enter Try.func10, Try.ntmps10
  go_upto_region 6 with (first
    | (go_at_call 18; refine i1.mono ?_; rintro e w' ⟨rfl, hw⟩; obtain rfl := hw.symm)
    | (go_at_call 31; refine i2.mono ?_; rintro e w1 ⟨o1, rfl, ho1, hb1⟩; have HO1 : Hid (RG w1 (w.alloc (.cells #[] 29)).heap.size o1 M n (fun i => r0 (X i) (ms i))) := ho1; have HB1 : Hid (Below (w.alloc (.cells #[] 29)).heap.size (w.alloc (.cells #[] 29)) w1) := hb1; clear ho1 hb1)
    | (go_at_call 32; refine (HRD.out _ _ HO1.out HB1.out.size).mono ?_; rintro e w2 ⟨l2, rfl, hr2, hl2, hb2⟩; have HRY : Hid (Rdy w2 (w.alloc (.cells #[] 29)).heap.size w2.heap.size o1 l2 M n S) := ⟨hr2, hl2, Nat.le_refl _⟩; have HB2 : Hid (Below (w.alloc (.cells #[] 29)).heap.size (w.alloc (.cells #[] 29)) w2) := HB1.out.trans hb2; clear hr2 hl2 hb2))
  clear i1 i2 HRD HO1 HB1
  have HW2 : Hid (Rgr w2 w.heap.size (.slice (some ⟨w.heap.size, 0, none⟩) 0 0) (bsl S 0).length n (fun _ => 0) (fun _ => 0) (wf (bsl S 0))) := HRW.out.call HB2.out
  have HBW : Hid (Below w.heap.size w w2) := bstep HBL.out HB2.out
  obtain ⟨lo, hlo⟩ : ∃ lo, lo = (w.alloc (.cells #[] 29)).heap.size := ⟨_, rfl⟩
  rw [← hlo] at HRY HSZ
  have HSL : Hid (lo = w.heap.size + 1) := HSZ.out
  obtain ⟨gs0, cs0, hrr⟩ := HRY.out.rows
  obtain ⟨oa, ocap, rfl, hoc, hog⟩ := hrr.open
  have HOG : Hid (0 < M → ∃ g, oa = some ⟨g, 0, none⟩) := hog
  obtain ⟨la, lc, hld⟩ := own_slice HRY.out.lead
  subst hld
  clear hlo hrr HRW HB2 HBL HSZ hog hoc
  go_wp2
  go_loopw [6, 9, 10, 11, 12, 26, 39] (fun uw _ _ _ _ ix _ wr => ∃ c : Nat, ix = .int .i64 c ∧ c ≤ n ∧ Hid ((∃ gs cs, Rgr wr w.heap.size uw (bsl S c).length n gs cs (wf (bsl S c))) ∧ Fix lo w2.heap.size w2 wr ∧ w2.heap.size ≤ wr.heap.size ∧ (∀ b, uw.ownBlock = some b → b < lo ∨ w2.heap.size ≤ b) ∧ Below w.heap.size w wr)) (fun _ _ _ _ _ ix _ _ => n - (intOf ix).toNat)
  case atStart =>
    refine ⟨0, rfl, by omega, ⟨_, _, HW2.out⟩, Fix.refl _ _ _, Nat.le_refl _, fun b hb => ?_, HBW.out⟩
    have e : w.heap.size = b := by simpa [Value.ownBlock] using hb
    have := HSL.out
    left; omega
  case round =>
    obtain ⟨c, rfl, hc, HRL⟩ := hrel
    by_cases h1 : c < n
    · obtain ⟨⟨gs, cs, hR⟩, hF, hs2, hlc, hB⟩ := HRL.out
      have HR : Hid (Rgr wr w.heap.size u6 (bsl S c).length n gs cs (wf (bsl S c))) := hR
      have HF : Hid (Fix lo w2.heap.size w2 wr) := hF
      have HS2 : Hid (w2.heap.size ≤ wr.heap.size) := hs2
      have HLC : Hid (∀ b, u6.ownBlock = some b → b < lo ∨ w2.heap.size ≤ b) := hlc
      have HB : Hid (Below w.heap.size w wr) := hB
      have hrd := HRY.out.fix hF
      have hbl := bsl_len S c
      have i3 := cont_any (x := (c : Int)) (il_of_own hrd.2) (by omega)
      by_cases hin : ∃ k, k < S.L.length ∧ lf S.L k = (c : Int)
      · rw [yb_yes hin] at i3
        have HE : Hid (bsl S (c + 1) = bsl S c) := bsl_yes hin
        clear hR hF hs2 hlc hB hin hrd
        go_wp2_with (go_at_call 33; refine i3.mono ?_; rintro e w' ⟨rfl, hw⟩; obtain rfl := hw.symm)
        go_roundw
        case rel => exact ⟨c + 1, by go_num, by omega, by rw [HE.out]; exact HRL.out⟩
        case measure => simp [intOf]; omega
      · rw [yb_no hin] at i3
        have HE : Hid (bsl S (c + 1) = bsl S c ++ [wdf S.R (lf S.L) c S.L.length]) := bsl_no hin
        have hr := mkd_run wr (k := n) (by omega)
        have ow := mkd_own wr (B := wr.heap.size) (k := n) (by omega) (Nat.le_refl _)
        have bm := mkd_below wr n
        have cz := ow.cellAt c (by omega)
        rw [ils_get h1] at cz
        have fz := ow.frozenAt c
        have os := (ow.stored c (.int .i64 1)).1
        rw [ils_put] at os
        have OW : Hid (((mkd wr n).setCell ⟨wr.heap.size, c, none⟩ (.int .i64 1)).ownsRow wr.heap.size 3 1 (.slice (some ⟨wr.heap.size, 0, none⟩) n n) n (ils (wdf S.R (lf S.L) c 0) n)) := os
        have BM : Hid (Below wr.heap.size wr ((mkd wr n).setCell ⟨wr.heap.size, c, none⟩ (.int .i64 1))) := bm.setCell (Nat.le_refl _) _
        clear hR hF hs2 hlc hB hin hrd ow os bm HRL
        obtain ⟨W1, rfl⟩ : ∃ W1, W1 = wr := ⟨_, rfl⟩
        go_upto_region 12 with (first | (go_at_call 33; refine i3.mono ?_; rintro e w' ⟨rfl, hw⟩; obtain rfl := hw.symm))
        clear i3 hr cz fz
        generalize (mkd W1 n).setCell ⟨W1.heap.size, c, none⟩ (.int .i64 1) = W3 at *
        go_wp2
        go_loopw [11, 12, 39] (fun _ _ jx wi => ∃ q : Nat, jx = .int .i64 q ∧ q ≤ S.L.length ∧ Hid (wi.ownsRow W1.heap.size 3 1 (.slice (some ⟨W1.heap.size, 0, none⟩) n n) n (ils (wdf S.R (lf S.L) c q) n) ∧ Below W1.heap.size W1 wi)) (fun _ _ jx _ => S.L.length - (intOf jx).toNat)
        case atStart => exact ⟨0, rfl, by omega, OW.out, BM.out⟩
        case round =>
          obtain ⟨q, rfl, hq, HIN⟩ := hrel
          by_cases h2 : q < S.L.length
          · have hrd := HRY.out.fix (HF.out.below HIN.out.2 HS2.out)
            obtain ⟨⟨gs3, cs3, hr3⟩, hl3⟩ := hrd
            have hlq := HG.out.lead q h2
            obtain ⟨p, hp⟩ : ∃ p : Nat, lf S.L q = (p : Int) := ⟨(lf S.L q).toNat, by omega⟩
            have hpn : p < n := by omega
            have hqM : q < M := by omega
            obtain ⟨g, rfl⟩ := HOG.out (by omega)
            obtain ⟨lg, lcc, hle, _⟩ := own_some hl3 (by omega)
            have hla : la = some ⟨lg, 0, none⟩ := by injection hle
            subst hla
            have c1 := hl3.cellAt q (by omega)
            rw [ils_get h2, hp] at c1
            have c2 := hr3.at hqM
            have c3 := (hr3.rows q hqM).cellAt c (by omega)
            rw [ils_get h1] at c3
            have hrow := HIN.out.1
            have c4 := hrow.cellAt p (by omega)
            rw [ils_get hpn] at c4
            have fz := hrow.frozenAt p
            have hst := (hrow.stored p (.int .i64 (S.R q c))).1
            rw [ils_put, wdf_put (by omega)] at hst
            have HST : Hid _ := hst
            have HB2 : Hid (Below W1.heap.size W1 (wr.setCell ⟨W1.heap.size, p, none⟩ (.int .i64 (S.R q c)))) := HIN.out.2.setCell (Nat.le_refl _) _
            generalize wdf S.R (lf S.L) c q p = z at c4
            generalize S.R q c = y at *
            clear hst hrow HIN hr3 hl3 hlq hp hle
            go_wp2
            go_roundw
            case rel => exact ⟨q + 1, by go_num, by omega, HST.out, HB2.out⟩
            case measure => simp [intOf]; omega
          · obtain rfl : q = S.L.length := by omega
            have hB3 := HIN.out.2
            obtain ⟨v', w3, hap, hG, hgw, hloc⟩ := app_rowk (HR.out.call hB3) (own_base HIN.out.1 HB.out.size) (fun i hi => by have := HR.out.gs_lt hi; omega) (by omega) (Nat.le_trans HB.out.size hB3.size)
            have HAP : Hid _ := hap
            have HG3 : Hid (∃ gs cs, Rgr w3 w.heap.size v' (bsl S (c + 1)).length n gs cs (wf (bsl S (c + 1)))) := by
              rw [HE.out, List.length_append, List.length_singleton]
              exact ⟨_, _, hG.congr (fun i hi => wf_snoc _ _ i hi)⟩
            have B3 : Hid (Below w.heap.size w w3) := grown_below (bstep (bstep HB.out hB3) (below_one _ _)) (Nat.le_refl _) (own_below (HR.out.call hB3).row (below_one _ _)) hgw
            have HF3 : Hid (Fix lo w2.heap.size w2 w3) := ((HF.out.below hB3 HS2.out).below (below_one _ _) (Nat.le_trans HS2.out hB3.size)).trans (fun k hk1 hk2 => hgw.block k (by have h1 := HS2.out; have h2 := hB3.size; have h3 := (below_one wr (.cells #[.slice (some ⟨W1.heap.size, 0, none⟩) n n] 29)).size; omega) (fun e => by have := HLC.out k e.symm; omega))
            have HS3 : Hid (w2.heap.size ≤ w3.heap.size) := Nat.le_trans (Nat.le_trans HS2.out hB3.size) (Nat.le_trans (below_one wr (.cells #[.slice (some ⟨W1.heap.size, 0, none⟩) n n] 29)).size hgw.size)
            have HL3 : Hid (∀ b, v'.ownBlock = some b → b < lo ∨ w2.heap.size ≤ b) := fun b hb => by
              rcases hloc with e | e
              · exact HLC.out b (e.symm.trans hb)
              · have e2 : wr.heap.size + 1 = b := Option.some.inj (e.symm.trans hb)
                have h1 := HS2.out
                have h2 := hB3.size
                right; omega
            obtain ⟨ua, uc, huu, _, _⟩ := HR.out.open
            clear hap hG hgw hB3 HIN hloc
            go_wp2_with (at_builtin; refine wpList_appr rfl _ _ rfl rfl rfl rfl HAP.out ?_)
            go_roundw
            case rel => exact ⟨c + 1, by go_num, by omega, HG3.out, HF3.out, HS3.out, HL3.out, B3.out⟩
            case measure => simp [intOf]; omega
    · obtain rfl : c = n := by omega
      go_wp2
      go_ret2
      exact ⟨_, rfl, HRL.out.1, HRL.out.2.2.2.2⟩

set_option maxHeartbeats 1000000 in
theorem iBasis_bad {w : World} {v : Value} {M : Nat} {n : Int} {ms : Nat → Nat} {X : Nat → Nat → Int} (hv : Ipp w v M ms X) (hM : M ≤ 1048576) (hms : ∀ k, k < M → ms k ≤ 1048576) (hb : ¬ Cks M ms X n) (Z : Nat → Nat → Int) :
    Calls Try.prog 10 #[v, .int .i64 n] w fun e w' => Psr w w' e 0 0 Z false := by
  have bl := below_one w (.cells #[] 29)
  have i1 := iChecks_any (n := n) (hv.below bl) hM hms
  rw [yb_no hb] at i1
  have OW : Hid (RG (w.alloc (.cells #[] 29)) w.heap.size (.slice (some ⟨w.heap.size, 0, none⟩) 0 0) 0 0 Z) := ⟨fun _ => 0, fun _ => 0, Rgr.start w 0 _ _ _⟩
  have BL : Hid (Below w.heap.size w (w.alloc (.cells #[] 29))) := bl
  clear hb hms hv bl
  go_enter Try.func10, Try.ntmps10
  go_wp2_with (first | (go_at_call 18; refine i1.mono ?_; rintro e w' ⟨rfl, hw⟩; obtain rfl := hw.symm))
  go_ret2
  exact ⟨_, rfl, OW.out, BL.out⟩
end Go.Proofs.Ytnfhnchomiejcaa
