/- Basis of the model. -/
import Derived.Test.YtnfhnchomiejcaaBF
namespace Go.Proofs.Ytnfhnchomiejcaa
open Go.RowKit

set_option maxRecDepth 20000 in
set_option maxHeartbeats 8000000 in
theorem sBasis_good {w : World} {v : Value} {M n : Nat} {ms : Nat → Nat} {X : Nat → Nat → Int} (hv : Ipp w v M ms X) (hk : Cks M ms X (n : Int)) (S0 : Gj) (hS0 : S0 = gj M (fun i => r0 (X i) (ms i)) n) :
    Calls Try.prog 11 #[v, .int .i64 (n : Int)] w fun e w' => Psr w w' e (bsl S0 n).length n (wf (bsl S0 n)) true := by
  obtain ⟨i0, hi, hz0, hz1, hz2⟩ := info_parts Try.info3
  have hn := hk.1.1
  have hM := hk.1.2
  have HCK : Hid (∀ k, k < M → Chk (ms k) (X k) (n : Int)) := hk.2
  have bl := below_one w (.cells #[] 29)
  have i1 := sChecks_any (n := (n : Int)) (hv.below bl) (by omega) (fun k hk' => by have := (hk.2 k hk').1.2; omega)
  rw [yb_yes hk] at i1
  have HGI : Hid (∀ c, c ≤ n → Gi M n c (gj M (fun i => r0 (X i) (ms i)) c)) := gi_all (fun i k _ _ => r0_bit _ _ _)
  have HS0 : Hid (S0 = gj M (fun i => r0 (X i) (ms i)) n) := hS0
  have HRW : Hid (Rgr (w.alloc (.cells #[] 29)) w.heap.size (.slice (some ⟨w.heap.size, 0, none⟩) 0 0) (bsl S0 0).length n (fun _ => 0) (fun _ => 0) (wf (bsl S0 0))) := Rgr.start w n _ _ _
  have HSZ : Hid ((w.alloc (.cells #[] 29)).heap.size = w.heap.size + 1) := by show _ = _; simp
  have HBL : Hid (Below w.heap.size w (w.alloc (.cells #[] 29))) := bl
  obtain ⟨ao, cap0, rfl, hcap, hc⟩ := hv
  have HC : Hid (0 < M → ∃ b off, ∃ R : Nat → Value, ao = some ⟨b, off, none⟩ ∧ b < w.heap.size ∧ ∀ k, k < M → w.cell? ⟨b, off + k, none⟩ = some (R k) ∧ Il w (R k) (ms k) (X k)) := hc
  clear hk hS0 hc bl
  have hST := rStoreS
  go_enter Try.func11, Try.ntmps11
  go_upto_region 5 with (first | (go_at_call 16; refine i1.mono ?_; rintro e W ⟨rfl, hbW⟩; have HBW : Hid (Below (w.alloc (.cells #[] 29)).heap.size (w.alloc (.cells #[] 29)) W) := hbW; clear hbW))
  clear i1
  have HW0 : Hid (Rgr W w.heap.size (.slice (some ⟨w.heap.size, 0, none⟩) 0 0) (bsl S0 0).length n (fun _ => 0) (fun _ => 0) (wf (bsl S0 0))) := HRW.out.call HBW.out
  have HB0 : Hid (Below w.heap.size w W) := bstep HBL.out HBW.out
  have HLO : Hid (w.heap.size < W.heap.size) := by have h1 := HBW.out.size; have h2 := HSZ.out; show _ < _; omega
  clear HRW HBW HBL HSZ
  have HR0 : Hid (∃ gs cs, Rgr (W.alloc (.cells #[] 29)) W.heap.size (.slice (some ⟨W.heap.size, 0, none⟩) 0 0) 0 n gs cs (fun i => r0 (X i) (ms i))) := ⟨fun _ => 0, fun _ => 0, Rgr.start W n _ _ _⟩
  have HB1 : Hid (Below W.heap.size W (W.alloc (.cells #[] 29))) := below_one _ _
  go_wp2
  generalize W.alloc (.cells #[] 29) = Wa at *
  go_loopw [7, 8, 9, 10] (fun o ix _ _ wr => ∃ k : Nat, ix = .int .i64 k ∧ k ≤ M ∧ Hid ((∃ gs cs, Rgr wr W.heap.size o k n gs cs (fun i => r0 (X i) (ms i))) ∧ Below W.heap.size W wr)) (fun _ ix _ _ _ => M - (intOf ix).toNat)
  case atStart => exact ⟨0, rfl, by omega, HR0.out, HB1.out⟩
  case round =>
    obtain ⟨k, rfl, hk, HRL⟩ := hrel
    by_cases h1 : k < M
    · obtain ⟨b, off, R, rfl, hlt, hcell⟩ := HC.out (by omega)
      obtain ⟨c0, hil⟩ := hcell k h1
      have hck := HCK.out k h1
      obtain ⟨m, em⟩ : ∃ m, m = ms k := ⟨_, rfl⟩
      rw [← em] at hil hck
      have hm2 := hck.1
      have HPL : Hid (Plc m (X k) (n : Int)) := hck.2
      have EM : Hid (m = ms k) := em
      obtain ⟨qa, qc, hq, hqc, hqq⟩ := hil
      rw [hq] at c0
      have CC : Hid (∀ V, Below W.heap.size W V → V.cell? ⟨b, off + k, none⟩ = some (.slice qa m qc)) := fun V hV => ((bstep HB0.out hV).cell (p := ⟨b, off + k, none⟩) hlt).trans c0
      have HQ : Hid (0 < m → ∃ b off, qa = some ⟨b, off, none⟩ ∧ b < w.heap.size ∧ ∀ j, j < m → w.cell? ⟨b, off + j, none⟩ = some (.int .i64 (X k j))) := hqq
      obtain ⟨gs, cs, hR⟩ := HRL.out.1
      have HR : Hid (Rgr wr W.heap.size u7 k n gs cs (fun i => r0 (X i) (ms i))) := hR
      have HB : Hid (Below W.heap.size W wr) := HRL.out.2
      have hr := mkd_run wr (k := n) (by omega)
      have OW : Hid ((mkd wr n).ownsRow wr.heap.size 3 1 (.slice (some ⟨wr.heap.size, 0, none⟩) n n) n (ils (r0 (X k) 0) n)) := mkd_own wr (by omega) (Nat.le_refl _)
      have BL : Hid (Below wr.heap.size wr (mkd wr n)) := mkd_below _ _
      obtain ⟨oa, ocap, ho, hoc, -⟩ := hR.open
      clear hcell hqq hq c0 em hck hR HRL
      subst ho
      obtain ⟨W1, rfl⟩ : ∃ W1, W1 = wr := ⟨_, rfl⟩
      go_wp2
      clear hr
      generalize mkd W1 n = W0 at *
      go_loopw [10] (fun jx wi => ∃ q : Nat, jx = .int .i64 q ∧ q ≤ m ∧ Hid (wi.ownsRow W1.heap.size 3 1 (.slice (some ⟨W1.heap.size, 0, none⟩) n n) n (ils (r0 (X k) q) n) ∧ Below W1.heap.size W1 wi)) (fun jx _ => m - (intOf jx).toNat)
      case atStart => exact ⟨0, rfl, by omega, OW.out, BL.out⟩
      case round =>
        obtain ⟨q, rfl, hq, HIN⟩ := hrel
        have c := CC.out _ (bstep HB.out HIN.out.2)
        by_cases h2 : q < m
        · obtain ⟨b2, off2, rfl, hlt2, hcell2⟩ := HQ.out (by omega)
          have hpl := HPL.out.lim q h2
          obtain ⟨p, hp⟩ : ∃ p : Nat, X k q = (p : Int) := ⟨(X k q).toNat, by omega⟩
          have hpn : p < n := by omega
          have c2 := ((bstep HB0.out (bstep HB.out HIN.out.2)).cell (p := ⟨b2, off2 + q, none⟩) hlt2).trans (hcell2 q h2)
          rw [hp] at c2
          have hrow := HIN.out.1
          have HB2 : Hid (Below W1.heap.size W1 wr) := HIN.out.2
          have c4 := hrow.cellAt p (by omega)
          rw [ils_get hpn] at c4
          have fz := hrow.frozenAt p
          have hst := (hrow.stored p (.int .i64 1)).1
          rw [ils_put, r0_put (by omega)] at hst
          have HST : Hid _ := hst
          generalize r0 (X k) q p = z at c4
          clear hcell2 hpl hp hst hrow HIN
          go_wp2
          go_roundw
          case rel => exact ⟨q + 1, by go_num, by omega, HST.out, HB2.out.setCell (Nat.le_refl _) _⟩
          case measure => simp [intOf]; omega
        · obtain rfl : q = m := by omega
          have hB3 := HIN.out.2
          obtain ⟨v', w3, hap, hG, hgw⟩ := app_row (HR.out.call hB3) (own_base HIN.out.1 HB.out.size) (fun i hi => by have := HR.out.gs_lt hi; omega) (by omega) (Nat.le_trans HB.out.size hB3.size)
          have HAP : Hid _ := hap
          have HG3 : Hid (∃ gs cs, Rgr w3 W.heap.size v' (k + 1) n gs cs (fun i => r0 (X i) (ms i))) := ⟨_, _, hG.congr (fun i hi => by
            by_cases e : i = k
            · rw [if_pos e, e, EM.out]
            · rw [if_neg e])⟩
          have B3 : Hid (Below W.heap.size W w3) := grown_below (bstep (bstep HB.out hB3) (below_one _ _)) (Nat.le_refl _) (own_below (HR.out.call hB3).row (below_one _ _)) hgw
          clear hap hG hgw hB3 HIN
          go_wp2_with (at_builtin; refine wpList_appr rfl _ _ rfl rfl rfl rfl HAP.out ?_)
          go_roundw
          case rel => exact ⟨k + 1, by go_num, by omega, HG3.out, B3.out⟩
          case measure => simp [intOf]; omega
    · obtain rfl : k = M := by omega
      obtain ⟨gs0, cs0, hR0⟩ := HRL.out.1
      obtain ⟨oa, cap, ho, hMc, hog⟩ := hR0.open
      have HOG : Hid (0 < k → ∃ g, oa = some ⟨g, 0, none⟩) := hog
      have HRS : Hid (Rgr (wr.alloc (.cells #[] 3)) W.heap.size (.slice oa k cap) k n gs0 cs0 (gj k (fun i => r0 (X i) (ms i)) 0).R) := by have h := hR0.call (below_one wr (.cells #[] 3)); rw [ho] at h; exact h
      have HGS : Hid (∀ i, i < k → gs0 i < wr.heap.size) := fun i hi => own_ltg (hR0.rows i hi)
      have OW : Hid ((wr.alloc (.cells #[] 3)).ownsRow wr.heap.size 3 1 (.slice (some ⟨wr.heap.size, 0, none⟩) 0 0) (gj k (fun i => r0 (X i) (ms i)) 0).L.length (ils (lf (gj k (fun i => r0 (X i) (ms i)) 0).L) (gj k (fun i => r0 (X i) (ms i)) 0).L.length)) := own_empty wr 3 1
      have BL : Hid (Below W.heap.size W (wr.alloc (.cells #[] 3))) := bstep HRL.out.2 (below_one _ _)
      have HGG : Hid (∀ g, oa = some ⟨g, 0, none⟩ → W.heap.size ≤ g ∧ g < wr.heap.size) := fun g hg => by
        have h := hR0.row
        rw [ho, hg] at h
        exact World.ownsRow.lt h g rfl
      have HW2S : Hid (W.heap.size ≤ wr.heap.size) := HRL.out.2.size
      clear hR0 hog HRL HC HCK
      subst ho
      obtain ⟨W2, rfl⟩ : ∃ W2, W2 = wr := ⟨_, rfl⟩
      go_wp2
      generalize W2.alloc (.cells #[] 3) = W3 at *
      go_loopw [11, 12, 13, 14, 15, 16, 17] (fun ld ix _ _ _ _ _ wr => ∃ c : Nat, ix = .int .i64 c ∧ c ≤ n ∧ Hid ((∃ gs cs, Rgr wr W.heap.size (.slice oa k cap) k n gs cs (gj k (fun i => r0 (X i) (ms i)) c).R ∧ ∀ i, i < k → gs i < W2.heap.size) ∧ wr.ownsRow W2.heap.size 3 1 ld (gj k (fun i => r0 (X i) (ms i)) c).L.length (ils (lf (gj k (fun i => r0 (X i) (ms i)) c).L) (gj k (fun i => r0 (X i) (ms i)) c).L.length) ∧ Below W.heap.size W wr ∧ W2.heap.size ≤ wr.heap.size)) (fun _ ix _ _ _ _ _ _ => n - (intOf ix).toNat)
      case atStart => exact ⟨0, rfl, by omega, ⟨gs0, cs0, HRS.out, HGS.out⟩, OW.out, BL.out, by have := World.ownsRow.lt OW.out _ rfl; omega⟩
      case round =>
        obtain ⟨c, rfl, hc, HRL⟩ := hrel
        by_cases h1 : c < n
        · obtain ⟨gs1, cs1, hR, hgs1⟩ := HRL.out.1
          have hgi := HGI.out c hc
          obtain ⟨S, hS⟩ : ∃ S, S = gj k (fun i => r0 (X i) (ms i)) c := ⟨_, rfl⟩
          have HGN : Hid (gj k (fun i => r0 (X i) (ms i)) (c + 1) = stp k c S) := by show stp k c (gj k (fun i => r0 (X i) (ms i)) c) = _; rw [hS]
          have HLD : Hid (wr.ownsRow W2.heap.size 3 1 u11 S.L.length (ils (lf S.L) S.L.length)) := by show World.ownsRow _ _ _ _ _ _ _; rw [hS]; exact HRL.out.2.1
          have HB : Hid (Below W.heap.size W wr) := HRL.out.2.2.1
          have HW2 : Hid (W2.heap.size ≤ wr.heap.size) := HRL.out.2.2.2
          rw [← hS] at hR hgi
          have HR : Hid (Rgr wr W.heap.size (.slice oa k cap) k n gs1 cs1 S.R) := hR
          have HGS1 : Hid (∀ i, i < k → gs1 i < W2.heap.size) := hgs1
          have HG : Hid (Gi k n c S) := hgi
          obtain ⟨top, htop⟩ : ∃ top, top = S.L.length := ⟨_, rfl⟩
          have htM : top ≤ k := by rw [htop]; exact hgi.len
          have HT : Hid (top = S.L.length) := htop
          rw [← htop] at HLD
          obtain ⟨la, lc, hld⟩ := own_slice HLD.out
          clear hR hgi hgs1 HRL htop hS
          subst hld
          obtain ⟨Wb, rfl⟩ : ∃ Wb, Wb = wr := ⟨_, rfl⟩
          go_wp2
          go_loopw [14] (fun px wi => ∃ p : Nat, px = .int .i64 p ∧ top ≤ p ∧ p ≤ k ∧ wi = Wb ∧ Hid (∀ j, top ≤ j → j < p → S.R j c = 0)) (fun px _ => k - (intOf px).toNat)
          case atStart => exact ⟨top, rfl, Nat.le_refl _, htM, rfl, fun j h1 h2 => by omega⟩
          case round =>
            obtain ⟨p, rfl, hp0, hp1, hwe, hnul⟩ := hrel
            obtain rfl := hwe
            by_cases h2 : p < k
            · obtain ⟨g, rfl⟩ := HOG.out (by omega)
              have dp : decide ((p : Int) < (k : Int)) = true := by simp; omega
              have c1 := HR.out.at h2
              have c2 := (HR.out.rows p h2).cellAt c (by omega)
              rw [ils_get h1] at c2
              rcases HG.out.bit p c h2 h1 with h0 | h0
              · have HZ : Hid (S.R p c = 0) := h0
                rw [h0] at c2
                clear h0
                go_wp2
                go_roundw
                case rel =>
                  refine ⟨p + 1, by go_num, by omega, by omega, by trivial, fun j h1 h2 => ?_⟩
                  by_cases e : j = p
                  · subst e; exact HZ.out
                  · exact hnul.out j h1 (by omega)
                case measure => simp [intOf]; omega
              · have hpv : pv k c S = p := by
                  unfold pv
                  rw [← HT.out]
                  exact fp_eq hp0 (by omega) (fun j h1 h2 => hnul.out j h1 h2) (.inr (by show S.R p c ≠ 0; omega))
                have HQ : Hid (stp k c S = ⟨clr (swp S.R top p) top c, S.L ++ [(c : Int)]⟩) := by show _ = _; rw [stp_yes (by omega), hpv, ← HT.out]
                rw [h0] at c2
                clear h0 hpv hnul
                have htk : top < k := by omega
                have hgl := HGG.out g rfl
                have c3 := HR.out.at htk
                have z1 := HR.out.row.frozenAt p
                have z2 := HR.out.row.frozenAt top
                have r1 := (HR.out.row.stored p (rv gs1 cs1 n top)).1
                have z3 := r1.frozenAt top
                obtain ⟨y3, c4⟩ : ∃ y3, (wr.setCell ⟨g, p, none⟩ (rv gs1 cs1 n top)).cell? ⟨g, top, none⟩ = some y3 := by
                  have := r1.cellAt top (by omega)
                  rw [List.getElem?_eq_getElem (by rw [List.length_set, vls_length]; omega)] at this
                  exact ⟨_, this⟩
                obtain ⟨gs2, cs2, hsw, hgx, hcx, hin⟩ := HR.out.swapx htk h2
                have HSW : Hid (Rgr ((wr.setCell ⟨g, p, none⟩ (rv gs1 cs1 n top)).setCell ⟨g, top, none⟩ (rv gs1 cs1 n p)) W.heap.size (.slice (some ⟨g, 0, none⟩) k cap) k n gs2 cs2 (swp S.R top p)) := hsw
                have HGS2 : Hid (∀ i, i < k → gs2 i < W2.heap.size) := fun i hi => by obtain ⟨j, hj, e⟩ := hin i hi; rw [e]; exact HGS1.out j hj
                have HK2 : Hid (Kdd (fun q => q < W2.heap.size) wr ((wr.setCell ⟨g, p, none⟩ (rv gs1 cs1 n top)).setCell ⟨g, top, none⟩ (rv gs1 cs1 n p))) := ((Kdd.refl (fun q => q < W2.heap.size) wr).put (g := g) hgl.2 _ _).put (g := g) hgl.2 _ _
                have HB2 : Hid (Below W.heap.size W ((wr.setCell ⟨g, p, none⟩ (rv gs1 cs1 n top)).setCell ⟨g, top, none⟩ (rv gs1 cs1 n p))) := (HB.out.setCell hgl.1 _).setCell hgl.1 _
                have HBT : Hid (∀ i t, i < k → t < n → Bit (swp S.R top p i t)) := swp_bit htk h2 HG.out.bit
                have HGX : Hid (gs2 top = gs1 p ∧ cs2 top = cs1 p) := ⟨hgx, hcx⟩
                clear hsw hin r1 hgx hcx
                go_upto_region 26 with fail
                have HRR : Hid (Rgr ((wr.setCell ⟨g, p, none⟩ (.slice (some ⟨gs1 top, 0, none⟩) n (cs1 top))).setCell ⟨g, top, none⟩ (.slice (some ⟨gs1 p, 0, none⟩) n (cs1 p))) W.heap.size (.slice (some ⟨g, 0, none⟩) k cap) k n gs2 cs2 (clp (swp S.R top p) top c 0 0)) := by show Rgr _ _ _ _ _ _ _ _; rw [clp_start]; exact HSW.out
                have HLD2 : Hid (((wr.setCell ⟨g, p, none⟩ (.slice (some ⟨gs1 top, 0, none⟩) n (cs1 top))).setCell ⟨g, top, none⟩ (.slice (some ⟨gs1 p, 0, none⟩) n (cs1 p))).ownsRow W2.heap.size 3 1 (.slice la top lc) top (ils (lf S.L) top)) := own_at HLD.out (fun b hb => HK2.out.block b (World.ownsRow.lt HLD.out b hb).2 (by have := (World.ownsRow.lt HLD.out b hb).1; omega))
                have HB3 : Hid (Below W.heap.size W ((wr.setCell ⟨g, p, none⟩ (.slice (some ⟨gs1 top, 0, none⟩) n (cs1 top))).setCell ⟨g, top, none⟩ (.slice (some ⟨gs1 p, 0, none⟩) n (cs1 p)))) := HB2.out
                have HS3 : Hid (W2.heap.size ≤ ((wr.setCell ⟨g, p, none⟩ (.slice (some ⟨gs1 top, 0, none⟩) n (cs1 top))).setCell ⟨g, top, none⟩ (.slice (some ⟨gs1 p, 0, none⟩) n (cs1 p))).heap.size) := Nat.le_trans HW2.out HK2.out.size
                clear HSW HK2 HB2 c1 c2 c3 c4 z1 z2 z3
                generalize ((wr.setCell ⟨g, p, none⟩ (.slice (some ⟨gs1 top, 0, none⟩) n (cs1 top))).setCell ⟨g, top, none⟩ (.slice (some ⟨gs1 p, 0, none⟩) n (cs1 p))) = W4 at *
                obtain ⟨RR, hRR⟩ : ∃ RR, RR = swp S.R top p := ⟨_, rfl⟩
                rw [← hRR] at HRR HBT HQ
                clear hRR
                go_wp2
                go_loopw [16, 17] (fun ix _ wi => ∃ i : Nat, ix = .int .i64 i ∧ i ≤ k ∧ Hid (Rgr wi W.heap.size (.slice (some ⟨g, 0, none⟩) k cap) k n gs2 cs2 (clp RR top c i 0) ∧ wi.ownsRow W2.heap.size 3 1 (.slice la top lc) top (ils (lf S.L) top) ∧ Below W.heap.size W wi ∧ W2.heap.size ≤ wi.heap.size)) (fun ix _ _ => k - (intOf ix).toNat)
                case atStart => exact ⟨0, rfl, by omega, HRR.out, HLD2.out, HB3.out, HS3.out⟩
                case round =>
                  obtain ⟨i, rfl, hi4, HCL⟩ := hrel
                  by_cases h3 : i < k
                  · have hR := HCL.out.1
                    have c1 := hR.at h3
                    have c3 := (hR.rows i h3).cellAt c (by omega)
                    rw [ils_get h1, clp_new (Nat.zero_le _)] at c3
                    by_cases hia : i = top
                    · have hbe : (!((i : Int) == (top : Int))) = false := by simp; omega
                      have hbf : ((i : Int) != (top : Int)) = false := by simp; omega
                      have HN : Hid (Rgr wr W.heap.size (.slice (some ⟨g, 0, none⟩) k cap) k n gs2 cs2 (clp RR top c (i + 1) 0)) := hR.cong2 (fun j t _ _ => clp_skip (.inl hia) j t)
                      clear hia c3 hR
                      go_wp2
                      go_roundw
                      case rel => exact ⟨i + 1, by go_num, by omega, HN.out, HCL.out.2⟩
                      case measure => simp [intOf]; omega
                    · have hbe : (!((i : Int) == (top : Int))) = true := by simp; omega
                      have hbf : ((i : Int) != (top : Int)) = true := by simp; omega
                      rcases HBT.out i c h3 h1 with h0 | h0
                      · have HN : Hid (Rgr wr W.heap.size (.slice (some ⟨g, 0, none⟩) k cap) k n gs2 cs2 (clp RR top c (i + 1) 0)) := hR.cong2 (fun j t _ _ => clp_skip (.inr (by omega)) j t)
                        rw [h0] at c3
                        clear h0 hia hR
                        go_wp2
                        go_roundw
                        case rel => exact ⟨i + 1, by go_num, by omega, HN.out, HCL.out.2⟩
                        case measure => simp [intOf]; omega
                      · rw [h0] at c3
                        have H01 : Hid (i ≠ top ∧ RR i c = 1) := ⟨hia, h0⟩
                        clear h0 hia hR
                        go_wp2
                        clear c1 c3
                        go_loopw [17] (fun jx wi => ∃ t : Nat, jx = .int .i64 t ∧ t ≤ n ∧ Hid (Rgr wi W.heap.size (.slice (some ⟨g, 0, none⟩) k cap) k n gs2 cs2 (clp RR top c i t) ∧ wi.ownsRow W2.heap.size 3 1 (.slice la top lc) top (ils (lf S.L) top) ∧ Below W.heap.size W wi ∧ W2.heap.size ≤ wi.heap.size)) (fun jx _ => n - (intOf jx).toNat)
                        case atStart => exact ⟨0, rfl, by omega, HCL.out⟩
                        case round =>
                          obtain ⟨t, rfl, ht, HIN⟩ := hrel
                          by_cases h4 : t < n
                          · have hR := HIN.out.1
                            have c1 := hR.at h3
                            have c4 := (hR.rows i h3).cellAt t (by omega)
                            rw [ils_get h4, clp_new (Nat.le_refl _)] at c4
                            have c5 := (hR.rows top htk).cellAt t (by omega)
                            rw [ils_get h4, clp_top, HGX.out.1] at c5
                            have fz := (hR.rows i h3).frozenAt t
                            have hx := xor_bit (HBT.out i t h3 h4) (HBT.out top t htk h4)
                            have hgi2 := World.ownsRow.lt (hR.rows i h3) (gs2 i) rfl
                            have HST : Hid (Rgr (wr.setCell ⟨gs2 i, t, none⟩ (.int .i64 (xb (RR i t) (RR top t)))) W.heap.size (.slice (some ⟨g, 0, none⟩) k cap) k n gs2 cs2 (clp RR top c i (t + 1))) := (hR.put h3 t _).cong2 (fun j u _ _ => clp_step (by unfold clr; rw [if_pos H01.out]) j u)
                            have HL5 : Hid ((wr.setCell ⟨gs2 i, t, none⟩ (.int .i64 (xb (RR i t) (RR top t)))).ownsRow W2.heap.size 3 1 (.slice la top lc) top (ils (lf S.L) top)) := own_at HIN.out.2.1 (fun b hb => Below.heap_setCell _ _ _ _ (fun e => by have h1 := (World.ownsRow.lt HIN.out.2.1 b hb).1; have h2 := HGS2.out i h3; have h5 : b = gs2 i := e; omega))
                            have HB5 : Hid (Below W.heap.size W (wr.setCell ⟨gs2 i, t, none⟩ (.int .i64 (xb (RR i t) (RR top t))))) := HIN.out.2.2.1.setCell hgi2.1 _
                            have HS5 : Hid (W2.heap.size ≤ (wr.setCell ⟨gs2 i, t, none⟩ (.int .i64 (xb (RR i t) (RR top t)))).heap.size) := by show _ ≤ _; simpa [World.setCell] using HIN.out.2.2.2
                            generalize xb (RR i t) (RR top t) = z at *
                            generalize RR i t = x at *
                            generalize RR top t = y at *
                            clear hR HIN hgi2
                            go_upto_region 33 with fail
                            go_region
                            go_wp2
                            go_roundw
                            case rel => exact ⟨t + 1, by go_num, by omega, ⟨HST.out.row, HST.out.rows, HST.out.inj⟩, HL5.out, HB5.out.drew, HS5.out⟩
                            case measure => simp [intOf]; omega
                          · obtain rfl : t = n := by omega
                            have HN : Hid (Rgr wr W.heap.size (.slice (some ⟨g, 0, none⟩) k cap) k t gs2 cs2 (clp RR top c (i + 1) 0)) := HIN.out.1.cong2 (fun j u _ hu => clp_next j u hu)
                            go_wp2
                            go_roundw
                            case rel => exact ⟨i + 1, by go_num, by omega, HN.out, HIN.out.2⟩
                            case measure => simp [intOf]; omega
                  · obtain rfl : i = k := by omega
                    have HR3 : Hid (Rgr wr W.heap.size (.slice (some ⟨g, 0, none⟩) i cap) i n gs2 cs2 (clr RR top c)) := HCL.out.1.cong2 (fun j t hj _ => clp_end j t hj)
                    have bl3 := below_one wr (.cells #[.int .i64 (c : Int)] 3)
                    have HO4 := own_below HCL.out.2.1 bl3
                    have HB4 := bstep HCL.out.2.2.1 bl3
                    have hR4 := HR3.out.call bl3
                    have hs4 : W2.heap.size ≤ (wr.alloc (.cells #[.int .i64 (c : Int)] 3)).heap.size := Nat.le_trans HCL.out.2.2.2 bl3.size
                    clear bl3 HCL
                    go_wp2_with (at_builtin; refine wpList_append_own _ rfl _ _ 29 rfl W2.heap.size 3 i0 (.int .i64 0) 1 8 Try.underlying29 hi hz0 hz1 hz2 rfl (by decide) _ _ _ rfl HO4 ⟨wr.heap.size, 0, none⟩ 1 1 [.int .i64 (c : Int)] rfl rfl (one_new _ _ _) (by simp [Value.oneCell']) (by unfold maxLen; omega) (by omega) hs4 ?_)
                    intro v' w5 hown' hgrow _
                    have HB5 : Hid (Below W.heap.size W w5) := grown_below HB4 (Nat.le_refl _) (own_base HO4 HW2S.out) hgrow
                    have HO5 : Hid (w5.ownsRow W2.heap.size 3 1 v' (S.L ++ [(c : Int)]).length (ils (lf (S.L ++ [(c : Int)])) (S.L ++ [(c : Int)]).length)) := own_lf (by have h := hown'; rw [HT.out] at h; exact h)
                    have hne : ∀ b, b < W2.heap.size → some b ≠ (Value.slice la top lc).ownBlock := fun b hb e => by have := (World.ownsRow.lt HO4 b e.symm).1; omega
                    have HR5 : Hid (Rgr w5 W.heap.size (.slice (some ⟨g, 0, none⟩) i cap) i n gs2 cs2 (clr RR top c)) := ⟨own_at hR4.row (fun b hb => by
                      have e : g = b := by simpa [Value.ownBlock] using hb
                      subst e
                      exact hgrow.block _ (own_ltg hR4.row) (hne _ hgl.2)), fun j hj => own_block (hR4.rows j hj) (hgrow.block _ (own_ltg (hR4.rows j hj)) (hne _ (HGS2.out j hj))), hR4.inj⟩
                    have HS5 : Hid (W2.heap.size ≤ w5.heap.size) := Nat.le_trans hs4 hgrow.size
                    clear hown' hgrow HB4 HO4 hR4 hne hs4
                    go_wp2
                    go_roundw
                    case rel => exact ⟨c + 1, by go_num, by omega, by rw [HGN.out, HQ.out]; exact ⟨⟨gs2, cs2, HR5.out, HGS2.out⟩, HO5.out, HB5.out, HS5.out⟩⟩
                    case measure => simp [intOf]; omega
            · obtain rfl : p = k := by omega
              have hpv : pv p c S = p := by
                unfold pv
                rw [← HT.out]
                exact fp_eq hp0 (by omega) (fun j h1 h2 => hnul.out j h1 h2) (.inl (by omega))
              have HQ : Hid (stp p c S = S) := stp_no (by omega)
              have HLD5 : Hid (wr.ownsRow W2.heap.size 3 1 (.slice la top lc) S.L.length (ils (lf S.L) S.L.length)) := by have h := HLD.out; rw [HT.out] at h ⊢; exact h
              have dp : decide ((p : Int) < (p : Int)) = false := by simp
              clear hpv
              go_wp2
              go_roundw
              case rel => exact ⟨c + 1, by go_num, by omega, by rw [HGN.out, HQ.out]; exact ⟨⟨gs1, cs1, HR.out, HGS1.out⟩, HLD5.out, HB.out, HW2.out⟩⟩
              case measure => simp [intOf]; omega
        · obtain rfl : n = c := by omega
          have HG : Hid (Gi k n n S0) := by show Gi _ _ _ _; rw [HS0.out]; exact HGI.out n (Nat.le_refl _)
          obtain ⟨⟨gs1, cs1, hR, hgs1⟩, hld0, hB1, hW1⟩ := HRL.out
          rw [← HS0.out] at hR hld0
          have hlm : S0.L.length ≤ k := HG.out.len
          have HRY : Hid (Rdy wr W.heap.size wr.heap.size (.slice oa k cap) u11 k n S0) := ⟨⟨gs1, cs1, hR⟩, own_base hld0 HW2S.out, Nat.le_refl _⟩
          have HWW : Hid (Rgr wr w.heap.size (.slice (some ⟨w.heap.size, 0, none⟩) 0 0) (bsl S0 0).length n (fun _ => 0) (fun _ => 0) (wf (bsl S0 0))) := HW0.out.call hB1
          have HBW : Hid (Below w.heap.size w wr) := bstep HB0.out hB1
          obtain ⟨la, lc, hld⟩ := own_slice hld0
          clear hR hgs1 hld0 hB1 hW1 HRL HRS HGS OW BL HGG HW0 HGI HS0
          subst hld
          obtain ⟨W5, rfl⟩ : ∃ W5, W5 = wr := ⟨_, rfl⟩
          go_wp2
          go_loopw [6, 18, 19, 20, 21] (fun uw ix _ _ _ wr => ∃ c : Nat, ix = .int .i64 c ∧ c ≤ n ∧ Hid ((∃ gs cs, Rgr wr w.heap.size uw (bsl S0 c).length n gs cs (wf (bsl S0 c))) ∧ Fix W.heap.size W5.heap.size W5 wr ∧ W5.heap.size ≤ wr.heap.size ∧ (∀ b, uw.ownBlock = some b → b < W.heap.size ∨ W5.heap.size ≤ b) ∧ Below w.heap.size w wr)) (fun _ ix _ _ _ _ => n - (intOf ix).toNat)
          case atStart =>
            refine ⟨0, rfl, by omega, ⟨_, _, HWW.out⟩, Fix.refl _ _ _, Nat.le_refl _, fun b hb => ?_, HBW.out⟩
            have e : w.heap.size = b := by simpa [Value.ownBlock] using hb
            have := HLO.out
            left; omega
          case round =>
            obtain ⟨c, rfl, hc, HRL⟩ := hrel
            by_cases h1 : c < n
            · obtain ⟨⟨gs, cs, hR⟩, hF, hs2, hlc, hB⟩ := HRL.out
              have HR : Hid (Rgr wr w.heap.size u6 (bsl S0 c).length n gs cs (wf (bsl S0 c))) := hR
              have HF : Hid (Fix W.heap.size W5.heap.size W5 wr) := hF
              have HS2 : Hid (W5.heap.size ≤ wr.heap.size) := hs2
              have HLC : Hid (∀ b, u6.ownBlock = some b → b < W.heap.size ∨ W5.heap.size ≤ b) := hlc
              have HB : Hid (Below w.heap.size w wr) := hB
              have hbl := bsl_len S0 c
              have hr := mkd_run wr (k := n) (by omega)
              have ow := mkd_own wr (B := wr.heap.size) (k := n) (by omega) (Nat.le_refl _)
              have bm := mkd_below wr n
              have cz := ow.cellAt c (by omega)
              rw [ils_get h1] at cz
              have fz := ow.frozenAt c
              have os := (ow.stored c (.int .i64 1)).1
              rw [ils_put] at os
              have OW : Hid (((mkd wr n).setCell ⟨wr.heap.size, c, none⟩ (.int .i64 1)).ownsRow wr.heap.size 3 1 (.slice (some ⟨wr.heap.size, 0, none⟩) n n) n (ils (fun i => if i = c then 1 else 0) n)) := os
              have BM : Hid (Below wr.heap.size wr ((mkd wr n).setCell ⟨wr.heap.size, c, none⟩ (.int .i64 1))) := bm.setCell (Nat.le_refl _) _
              clear hR hF hs2 hlc hB ow os bm
              obtain ⟨W1, rfl⟩ : ∃ W1, W1 = wr := ⟨_, rfl⟩
              go_upto_region 40 with fail
              clear hr cz fz
              generalize (mkd W1 n).setCell ⟨W1.heap.size, c, none⟩ (.int .i64 1) = W3 at *
              go_wp2
              go_loopw [20, 21] (fun fr jx wi => ∃ (q : Nat) (fb : Bool), jx = .int .i64 q ∧ fr = .bool fb ∧ q ≤ S0.L.length ∧ Hid (∃ f, wi.ownsRow W1.heap.size 3 1 (.slice (some ⟨W1.heap.size, 0, none⟩) n n) n (ils f n) ∧ Below W1.heap.size W1 wi ∧ Wq S0 c n q fb f)) (fun _ jx _ => S0.L.length - (intOf jx).toNat)
              case atStart => exact ⟨0, true, rfl, rfl, by omega, _, OW.out, BM.out, wq_start S0 c n⟩
              case round =>
                obtain ⟨q, fb, rfl, rfl, hq, HINe⟩ := hrel
                obtain ⟨f, hin⟩ := HINe.out
                have HIN : Hid (wr.ownsRow W1.heap.size 3 1 (.slice (some ⟨W1.heap.size, 0, none⟩) n n) n (ils f n) ∧ Below W1.heap.size W1 wr ∧ Wq S0 c n q fb f) := hin
                clear hin HINe
                by_cases h2 : q < S0.L.length
                · have hrd := HRY.out.fix (HF.out.below HIN.out.2.1 HS2.out)
                  obtain ⟨⟨gs3, cs3, hr3⟩, hl3⟩ := hrd
                  have hlq := HG.out.lead q h2
                  obtain ⟨p, hp⟩ : ∃ p : Nat, lf S0.L q = (p : Int) := ⟨(lf S0.L q).toNat, by omega⟩
                  have HP : Hid (lf S0.L q = (p : Int)) := hp
                  have hpn : p < n := by omega
                  have hqM : q < k := by omega
                  obtain ⟨g, rfl⟩ := HOG.out (by omega)
                  obtain ⟨lg, lcc, hle, _⟩ := own_some hl3 (by omega)
                  have hla : la = some ⟨lg, 0, none⟩ := by injection hle
                  subst hla
                  have c1 := hl3.cellAt q (by omega)
                  rw [ils_get h2, hp] at c1
                  have c2 := hr3.at hqM
                  have c3 := (hr3.rows q hqM).cellAt c (by omega)
                  rw [ils_get h1] at c3
                  have hrow := HIN.out.1
                  have c4 := hrow.cellAt p (by omega)
                  rw [ils_get hpn] at c4
                  have fz := hrow.frozenAt p
                  have hx := xor_bit (HIN.out.2.2.bit p hpn) (HG.out.bit q c hqM h1)
                  obtain ⟨z, hz⟩ : ∃ z, z = xb (f p) (S0.R q c) := ⟨_, rfl⟩
                  have HZZ : Hid (z = xb (f p) (S0.R q c)) := hz
                  rw [← hz] at hx
                  have hst := (hrow.stored p (.int .i64 z)).1
                  rw [ils_put] at hst
                  have HST : Hid ((wr.setCell ⟨W1.heap.size, p, none⟩ (.int .i64 z)).ownsRow W1.heap.size 3 1 (.slice (some ⟨W1.heap.size, 0, none⟩) n n) n (ils (fun i => if i = p then z else f i) n)) := hst
                  have HB2 : Hid (Below W1.heap.size W1 (wr.setCell ⟨W1.heap.size, p, none⟩ (.int .i64 z))) := HIN.out.2.1.setCell (Nat.le_refl _) _
                  clear hst hrow hl3 hlq hp hle hz hr3
                  cases fb with
                  | false =>
                    have hwq := wq_step (fr' := false) HIN.out.2.2 HG.out h2 h1 HP.out (rfl)
                    have HWQ : Hid (Wq S0 c n (q + 1) false (fun i => if i = p then z else f i)) := by show Wq _ _ _ _ _ _; rw [HZZ.out]; exact hwq
                    clear hwq HIN
                    generalize f p = fx at *
                    generalize S0.R q c = y at *
                    go_upto_region 45 with fail
                    go_region
                    go_wp2
                    go_roundw
                    case rel => exact ⟨q + 1, false, by go_num, rfl, by omega, _, HST.out, HB2.out.drew, HWQ.out⟩
                    case measure => simp [intOf]; omega
                  | true =>
                    by_cases hpc : p = c
                    · have hbe : ((p : Int) != (c : Int)) = false := by simp; omega
                      have hbf : (!((p : Int) == (c : Int))) = false := by simp; omega
                      have hwq := wq_step (fr' := false) HIN.out.2.2 HG.out h2 h1 HP.out (by simp [hpc])
                      have HWQ : Hid (Wq S0 c n (q + 1) false (fun i => if i = p then z else f i)) := by show Wq _ _ _ _ _ _; rw [HZZ.out]; exact hwq
                      clear hwq HIN
                      clear hpc
                      generalize f p = fx at *
                      generalize S0.R q c = y at *
                      go_upto_region 45 with fail
                      go_region
                      go_wp2
                      go_roundw
                      case rel => exact ⟨q + 1, false, by go_num, rfl, by omega, _, HST.out, HB2.out.drew, HWQ.out⟩
                      case measure => simp [intOf]; omega
                    · have hbe : ((p : Int) != (c : Int)) = true := by simp; omega
                      have hbf : (!((p : Int) == (c : Int))) = true := by simp; omega
                      have hwq := wq_step (fr' := true) HIN.out.2.2 HG.out h2 h1 HP.out (by simp; omega)
                      have HWQ : Hid (Wq S0 c n (q + 1) true (fun i => if i = p then z else f i)) := by show Wq _ _ _ _ _ _; rw [HZZ.out]; exact hwq
                      clear hwq HIN
                      clear hpc
                      generalize f p = fx at *
                      generalize S0.R q c = y at *
                      go_upto_region 45 with fail
                      go_region
                      go_wp2
                      go_roundw
                      case rel => exact ⟨q + 1, true, by go_num, rfl, by omega, _, HST.out, HB2.out.drew, HWQ.out⟩
                      case measure => simp [intOf]; omega
                · obtain rfl : q = S0.L.length := by omega
                  have hfr := HIN.out.2.2.free
                  cases fb with
                  | false =>
                    have hin : ∃ j, j < S0.L.length ∧ lf S0.L j = (c : Int) := by
                      refine Classical.byContradiction fun hno => ?_
                      rw [yb_yes (fun j hj e => hno ⟨j, hj, e⟩)] at hfr
                      cases hfr
                    have HE : Hid (bsl S0 (c + 1) = bsl S0 c) := bsl_yes hin
                    have B3 : Hid (Below w.heap.size w wr) := bstep HB.out HIN.out.2.1
                    have HF3 : Hid (Fix W.heap.size W5.heap.size W5 wr) := HF.out.below HIN.out.2.1 HS2.out
                    have HS3 : Hid (W5.heap.size ≤ wr.heap.size) := Nat.le_trans HS2.out HIN.out.2.1.size
                    have HG3 : Hid (∃ gs cs, Rgr wr w.heap.size u6 (bsl S0 (c + 1)).length n gs cs (wf (bsl S0 (c + 1)))) := by rw [HE.out]; exact ⟨_, _, HR.out.call HIN.out.2.1⟩
                    clear hin hfr HIN
                    go_wp2
                    go_roundw
                    case rel => exact ⟨c + 1, by go_num, by omega, HG3.out, HF3.out, HS3.out, HLC.out, B3.out⟩
                    case measure => simp [intOf]; omega
                  | true =>
                    have hall : ∀ j, j < S0.L.length → lf S0.L j ≠ (c : Int) := Classical.byContradiction fun hno => by
                      rw [yb_no hno] at hfr
                      cases hfr
                    have HE : Hid (bsl S0 (c + 1) = bsl S0 c ++ [wdf S0.R (lf S0.L) c S0.L.length]) := bsl_no (fun ⟨j, hj, e⟩ => hall j hj e)
                    have hB3 := HIN.out.2.1
                    have how := HIN.out.1
                    rw [ils_congr (g := wdf S0.R (lf S0.L) c S0.L.length) (fun t ht => HIN.out.2.2.word hall t ht)] at how
                    obtain ⟨v', w3, hap, hG, hgw, hloc⟩ := app_rowk (HR.out.call hB3) (own_base how HB.out.size) (fun i hi => by have := HR.out.gs_lt hi; omega) (by omega) (Nat.le_trans HB.out.size hB3.size)
                    have HAP : Hid _ := hap
                    have HG3 : Hid (∃ gs cs, Rgr w3 w.heap.size v' (bsl S0 (c + 1)).length n gs cs (wf (bsl S0 (c + 1)))) := by
                      rw [HE.out, List.length_append, List.length_singleton]
                      exact ⟨_, _, hG.congr (fun i hi => wf_snoc _ _ i hi)⟩
                    have B3 : Hid (Below w.heap.size w w3) := grown_below (bstep (bstep HB.out hB3) (below_one _ _)) (Nat.le_refl _) (own_below (HR.out.call hB3).row (below_one _ _)) hgw
                    have HF3 : Hid (Fix W.heap.size W5.heap.size W5 w3) := ((HF.out.below hB3 HS2.out).below (below_one _ _) (Nat.le_trans HS2.out hB3.size)).trans (fun k hk1 hk2 => hgw.block k (by have h1 := HS2.out; have h2 := hB3.size; have h3 := (below_one wr (.cells #[.slice (some ⟨W1.heap.size, 0, none⟩) n n] 29)).size; omega) (fun e => by have := HLC.out k e.symm; omega))
                    have HS3 : Hid (W5.heap.size ≤ w3.heap.size) := Nat.le_trans (Nat.le_trans HS2.out hB3.size) (Nat.le_trans (below_one wr (.cells #[.slice (some ⟨W1.heap.size, 0, none⟩) n n] 29)).size hgw.size)
                    have HL3 : Hid (∀ b, v'.ownBlock = some b → b < W.heap.size ∨ W5.heap.size ≤ b) := fun b hb => by
                      rcases hloc with e | e
                      · exact HLC.out b (e.symm.trans hb)
                      · have e2 : wr.heap.size + 1 = b := Option.some.inj (e.symm.trans hb)
                        have h1 := HS2.out
                        have h2 := hB3.size
                        right; omega
                    clear hap hG hgw hB3 HIN hloc hall hfr how
                    go_wp2_with (at_builtin; refine wpList_appr rfl _ _ rfl rfl rfl rfl HAP.out ?_)
                    go_roundw
                    case rel => exact ⟨c + 1, by go_num, by omega, HG3.out, HF3.out, HS3.out, HL3.out, B3.out⟩
                    case measure => simp [intOf]; omega
            · obtain rfl : c = n := by omega
              go_wp2
              go_ret2
              exact ⟨_, rfl, HRL.out.1, HRL.out.2.2.2.2⟩
end Go.Proofs.Ytnfhnchomiejcaa
