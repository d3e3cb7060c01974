/- Rows reduced. -/
import Derived.Test.YtnfhnchomiejcaaBB
namespace Go.Proofs.Ytnfhnchomiejcaa
open Go.RowKit

theorem ils_lfs {w : World} {B : Nat} {v : Value} {l : List Int} {x : Int} (h : w.ownsRow B 3 1 v (l.length + 1) (ils (lf l) l.length ++ [.int .i64 x])) : w.ownsRow B 3 1 v (l ++ [x]).length (ils (lf (l ++ [x])) (l ++ [x]).length) := own_lf h

set_option maxRecDepth 20000 in
set_option maxHeartbeats 4000000 in
theorem reduce_any {w : World} {B g cap M n : Nat} {gs cs : Nat → Nat} {R0 : Nat → Nat → Int} (h : Rgr w B (.slice (some ⟨g, 0, none⟩) M cap) M n gs cs R0) (hb : ∀ i k, i < M → k < n → Bit (R0 i k)) (hn : n ≤ 128) (hM : 1 ≤ M ∧ M ≤ 64) (hB : B ≤ w.heap.size) :
    Calls Try.prog 32 #[.slice (some ⟨g, 0, none⟩) M cap, .int .i64 (n : Int)] w fun e w' => ∃ u, e = .returned u ∧ RG w' B (.slice (some ⟨g, 0, none⟩) M cap) M n (gj M R0 n).R ∧ w'.ownsRow w.heap.size 3 1 u (gj M R0 n).L.length (ils (lf (gj M R0 n).L) (gj M R0 n).L.length) ∧ Below B w w' := by
  obtain ⟨i0, hi, hz0, hz1, hz2⟩ := info_parts Try.info3
  have HGI : Hid (∀ c, c ≤ n → Gi M n c (gj M R0 c)) := gi_all hb
  have HR0 : Hid (Rgr (w.alloc (.cells #[] 3)) B (.slice (some ⟨g, 0, none⟩) M cap) M n gs cs (gj M R0 0).R) := h.call (below_one _ _)
  have HGS : Hid (∀ i, i < M → gs i < w.heap.size) := fun i hi => own_ltg (h.rows i hi)
  have hgl : B ≤ g ∧ g < w.heap.size := World.ownsRow.lt h.row g rfl
  have HGB : Hid (B ≤ g ∧ g < w.heap.size) := hgl
  have hMc : M ≤ cap := by
    rcases h.row.2 with ⟨h', _⟩ | ⟨g', cap', cur, h', _, _, hx, _⟩
    · cases h'
    · injection h' with _ _ e3; omega
  have OW : Hid ((w.alloc (.cells #[] 3)).ownsRow w.heap.size 3 1 (.slice (some ⟨w.heap.size, 0, none⟩) 0 0) (gj M R0 0).L.length (ils (lf (gj M R0 0).L) (gj M R0 0).L.length)) := own_empty w 3 1
  have BL : Hid (Below B w (w.alloc (.cells #[] 3))) := (below_one _ _).mono hB
  clear h hb hgl
  go_enter Try.func32, Try.ntmps32
  go_wp2
  generalize w.alloc (.cells #[] 3) = W0 at *
  go_loopw [5, 6, 7, 8, 11] (fun ld _ _ _ ix wr => ∃ c : Nat, ix = .int .i64 c ∧ c ≤ n ∧ Hid ((∃ gs cs, Rgr wr B (.slice (some ⟨g, 0, none⟩) M cap) M n gs cs (gj M R0 c).R ∧ ∀ i, i < M → gs i < w.heap.size) ∧ wr.ownsRow w.heap.size 3 1 ld (gj M R0 c).L.length (ils (lf (gj M R0 c).L) (gj M R0 c).L.length) ∧ Below B w wr)) (fun _ _ _ _ ix _ => n - (intOf ix).toNat)
  case atStart => exact ⟨0, rfl, by omega, ⟨gs, cs, HR0.out, HGS.out⟩, OW.out, BL.out⟩
  case round =>
    obtain ⟨c, rfl, hc, HRL⟩ := hrel
    by_cases h1 : c < n
    · obtain ⟨gs1, cs1, hR, hgs1⟩ := HRL.out.1
      have hgi := HGI.out c hc
      obtain ⟨S, hS⟩ : ∃ S, S = gj M R0 c := ⟨_, rfl⟩
      have HGN : Hid (gj M R0 (c + 1) = stp M c S) := by show stp M c (gj M R0 c) = _; rw [hS]
      have HLD : Hid (wr.ownsRow w.heap.size 3 1 u5 S.L.length (ils (lf S.L) S.L.length)) := by show World.ownsRow _ _ _ _ _ _ _; rw [hS]; exact HRL.out.2.1
      have HB : Hid (Below B w wr) := HRL.out.2.2
      rw [← hS] at hR hgi
      have HR : Hid (Rgr wr B (.slice (some ⟨g, 0, none⟩) M cap) M n gs1 cs1 S.R) := hR
      have HGS1 : Hid (∀ i, i < M → gs1 i < w.heap.size) := hgs1
      have HG : Hid (Gi M n c S) := hgi
      obtain ⟨top, htop⟩ : ∃ top, top = S.L.length := ⟨_, rfl⟩
      have htM : top ≤ M := by rw [htop]; exact hgi.len
      have HT : Hid (top = S.L.length) := htop
      rw [← htop] at HLD
      obtain ⟨la, lc, hld⟩ := own_slice HLD.out
      have bw : Below wr.heap.size wr (wr.alloc (.cells #[.int .i64 (c : Int)] 3)) := below_one _ _
      have hsw : w.heap.size ≤ wr.heap.size := HB.out.size
      have CB : Hid ((wr.alloc (.cells #[.int .i64 (c : Int)] 3)).cell? ⟨wr.heap.size, 0, none⟩ = some (.int .i64 (c : Int))) := by show _ = _; simp
      have HIX : Hid (∀ ao k c', k = M - top → (ao = some ⟨g, top, none⟩ ∨ k = 0) → k ≤ c' → Calls Try.prog 47 #[.slice ao k c', .func (.func 48) #[] #[.pointer (some ⟨wr.heap.size, 0, none⟩)]] (wr.alloc (.cells #[.int .i64 (c : Int)] 3)) fun e w' => e = .returned (.int .i64 (if pv M c S < M then ((pv M c S - top : Nat) : Int) else -1)) ∧ w' = wr.alloc (.cells #[.int .i64 (c : Int)] 3)) := by
        intro ao k c' hk hao hkc
        have hip : Ipp (wr.alloc (.cells #[.int .i64 (c : Int)] 3)) (.slice ao k c') k (fun _ => n) (fun i => S.R (top + i)) := by
          refine ⟨ao, c', rfl, hkc, fun h0 => ?_⟩
          have e : ao = some ⟨g, top, none⟩ := hao.resolve_right (by omega)
          have hR1 := hR.call bw
          exact ⟨g, top, fun i => rv gs1 cs1 n (top + i), e, own_ltg hR1.row, fun i hik => ⟨hR1.at (by omega), il_of_own (hR1.rows (top + i) (by omega))⟩⟩
        have hx := idx_any (c := c) hip (by omega) CB.out h1 (fun i hik => hgi.bit (top + i) c (by omega) h1)
        have ev : pv M c S = top + fp (fun i => S.R (top + i) c) k 0 := by
          unfold pv
          rw [← htop, ← hk]
          exact fp_shift _ _ _
        have e2 : (if fp (fun i => S.R (top + i) c) k 0 < k then (fp (fun i => S.R (top + i) c) k 0 : Int) else -1) = (if pv M c S < M then ((pv M c S - top : Nat) : Int) else -1) := by
          rw [ev]
          by_cases h5 : fp (fun i => S.R (top + i) c) k 0 < k
          · rw [if_pos h5, if_pos (by omega)]; congr 1; omega
          · rw [if_neg h5, if_neg (by omega)]
        rw [e2] at hx
        exact hx
      clear hR hgi hgs1 HRL htop hS
      subst hld
      by_cases hp : pv M c S < M
      · have hge : top ≤ pv M c S := by rw [HT.out]; exact fp_ge _ _
        obtain ⟨q, hq⟩ : ∃ q, pv M c S = top + q := ⟨pv M c S - top, by omega⟩
        rw [if_pos hp, show ((pv M c S - top : Nat) : Int) = (q : Int) by rw [hq]; congr 1; omega] at HIX
        have htq : top + q < M := by omega
        have HQ : Hid (stp M c S = ⟨clr (swp S.R top (top + q)) top c, S.L ++ [(c : Int)]⟩) := by show _ = _; rw [stp_yes hp, hq, ← HT.out]
        clear hp hge hq
        have hR1 := HR.out.call bw
        have c1 := hR1.at (show top < M by omega)
        have c2 := hR1.at htq
        have z1 := hR1.row.frozenAt top
        have z2 := hR1.row.frozenAt (top + q)
        have r1 := (hR1.row.stored top (.slice (some ⟨gs1 (top + q), 0, none⟩) n (cs1 (top + q)))).1
        have z3 := r1.frozenAt (top + q)
        obtain ⟨y3, c3⟩ : ∃ y3, ((wr.alloc (.cells #[.int .i64 (c : Int)] 3)).setCell ⟨g, top, none⟩ (.slice (some ⟨gs1 (top + q), 0, none⟩) n (cs1 (top + q)))).cell? ⟨g, top + q, none⟩ = some y3 := by
          have := r1.cellAt (top + q) (by omega)
          rw [List.getElem?_eq_getElem (by rw [List.length_set, vls_length]; omega)] at this
          exact ⟨_, this⟩
        clear r1
        obtain ⟨gs2, cs2, hsw2, hin2⟩ := hR1.swap' (show top < M by omega) htq
        have HSW : Hid (Rgr (((wr.alloc (.cells #[.int .i64 (c : Int)] 3)).setCell ⟨g, top, none⟩ (rv gs1 cs1 n (top + q))).setCell ⟨g, top + q, none⟩ (rv gs1 cs1 n top)) B (.slice (some ⟨g, 0, none⟩) M cap) M n gs2 cs2 (swp S.R top (top + q))) := hsw2
        have HGS2 : Hid (∀ i, i < M → gs2 i < w.heap.size) := fun i hi => by obtain ⟨j, hj, e⟩ := hin2 i hi; rw [e]; exact HGS1.out j hj
        have HLD1 : Hid ((wr.alloc (.cells #[.int .i64 (c : Int)] 3)).ownsRow w.heap.size 3 1 (.slice la top lc) top (ils (lf S.L) top)) := own_below HLD.out bw
        have HB1 : Hid (Below B w (wr.alloc (.cells #[.int .i64 (c : Int)] 3))) := HB.out.alloc (Nat.le_trans hB hsw) _
        have HSZ : Hid (wr.heap.size < (wr.alloc (.cells #[.int .i64 (c : Int)] 3)).heap.size) := by show _ < _; simp
        clear hR1 hsw2 hin2 bw
        by_cases hct : top = cap
        · omega
        · go_upto_region 8 with (go_at_call 47; refine (HIX.out _ _ _ (by omega) (by first | exact .inl rfl | exact .inr (by omega)) (by omega)).mono ?_; rintro e w' ⟨rfl, hw⟩; obtain rfl := hw.symm)
          clear HIX hct
          generalize wr.alloc (.cells #[.int .i64 (c : Int)] 3) = W1 at *
          have hST := rStoreS
          go_region
          have HK2 : Hid (Kdd (fun k => k < w.heap.size) W1 (((W1.setCell ⟨g, top, none⟩ (.slice (some ⟨gs1 (top + q), 0, none⟩) n (cs1 (top + q)))).setCell ⟨g, top + q, none⟩ (.slice (some ⟨gs1 top, 0, none⟩) n (cs1 top))).drew)) := (((Kdd.refl (fun k => k < w.heap.size) W1).put (g := g) HGB.out.2 _ _).put (g := g) HGB.out.2 _ _).drew
          have HB2 : Hid (Below B w (((W1.setCell ⟨g, top, none⟩ (.slice (some ⟨gs1 (top + q), 0, none⟩) n (cs1 (top + q)))).setCell ⟨g, top + q, none⟩ (.slice (some ⟨gs1 top, 0, none⟩) n (cs1 top))).drew)) := ((HB1.out.setCell HGB.out.1 _).setCell HGB.out.1 _).drew
          have HSW2 : Hid (Rgr (((W1.setCell ⟨g, top, none⟩ (.slice (some ⟨gs1 (top + q), 0, none⟩) n (cs1 (top + q)))).setCell ⟨g, top + q, none⟩ (.slice (some ⟨gs1 top, 0, none⟩) n (cs1 top))).drew) B (.slice (some ⟨g, 0, none⟩) M cap) M n gs2 cs2 (swp S.R top (top + q))) := ⟨HSW.out.row, HSW.out.rows, HSW.out.inj⟩
          generalize (((W1.setCell ⟨g, top, none⟩ (.slice (some ⟨gs1 (top + q), 0, none⟩) n (cs1 (top + q)))).setCell ⟨g, top + q, none⟩ (.slice (some ⟨gs1 top, 0, none⟩) n (cs1 top))).drew) = W2 at *
          have cb2 := (HK2.out.cell (b := wr.heap.size) (o := 0) HSZ.out (by omega)).trans CB.out
          have HLD2 : Hid (W2.ownsRow w.heap.size 3 1 (.slice la top lc) top (ils (lf S.L) top)) := own_at HLD1.out (fun b hb => HK2.out.block b (World.ownsRow.lt HLD1.out b hb).2 (by have := (World.ownsRow.lt HLD1.out b hb).1; omega))
          have HSZ2 : Hid (wr.heap.size < W2.heap.size) := Nat.lt_of_lt_of_le HSZ.out HK2.out.size
          have hcl := clear_any HSW2.out (swp_bit (by omega) htq HG.out.bit) (show top < M by omega) h1 hn hM.2
          clear c1 c2 c3 z1 z2 z3 HSW CB HLD1 HK2 hST
          go_upto_region 10 with (go_at_call 49; refine hcl.mono ?_; rintro e w3 ⟨rfl, hr3, hk3⟩; have HR3 : Hid (Rgr w3 B (.slice (some ⟨g, 0, none⟩) M cap) M n gs2 cs2 (clr (swp S.R top (top + q)) top c)) := hr3; have HK3 : Hid (Kdd (fun k => ∃ i, i < M ∧ k = gs2 i) W2 w3) := hk3; clear hr3 hk3)
          clear hcl
          have hnd : ∀ k, w.heap.size ≤ k → ¬ ∃ i, i < M ∧ k = gs2 i := fun k hk ⟨i, hi, e⟩ => by have := HGS2.out i hi; omega
          have cb3 := (HK3.out.cell (b := wr.heap.size) (o := 0) HSZ2.out (hnd _ hsw)).trans cb2
          have HLD3 : Hid (w3.ownsRow w.heap.size 3 1 (.slice la top lc) top (ils (lf S.L) top)) := own_at HLD2.out (fun b hb => HK3.out.block b (World.ownsRow.lt HLD2.out b hb).2 (hnd b (World.ownsRow.lt HLD2.out b hb).1))
          have HB3 : Hid (Below B w w3) := HB2.out.trans ⟨HK3.out.os, HK3.out.tape, HK3.out.output, HK3.out.size, fun k hk => by
            by_cases hkl : k < W2.heap.size
            · refine HK3.out.block k hkl (fun ⟨i, hi, e⟩ => ?_)
              have := (World.ownsRow.lt (HSW2.out.rows i hi) (gs2 i) rfl).1
              omega
            · have := HB2.out.size
              omega⟩
          have bl3 := below_one w3 (.cells #[.int .i64 (c : Int)] 3)
          have HO4 := own_below HLD3.out bl3
          have HB4 := HB3.out.trans (bl3.mono (Nat.le_trans hB HB3.out.size))
          have hR4 := HR3.out.call bl3
          have htl : top ≤ 64 := by omega
          clear hnd cb2 bl3 HSW2 HK3 HB2 HLD2
          go_wp2_with (at_builtin; refine wpList_append_own _ rfl _ _ 29 rfl w.heap.size 3 i0 (.int .i64 0) 1 8 Try.underlying29 hi hz0 hz1 hz2 rfl (by decide) _ _ _ rfl HO4 ⟨w3.heap.size, 0, none⟩ 1 1 [.int .i64 (c : Int)] rfl rfl (one_new _ _ _) (by simp [Value.oneCell']) (by unfold maxLen; omega) (by omega) HB4.size ?_)
          intro v' w5 hown' hgrow _
          have HB5 : Hid (Below B w w5) := grown_below HB4 hB (own_base HO4 hB) hgrow
          have HO5 : Hid (w5.ownsRow w.heap.size 3 1 v' (S.L ++ [(c : Int)]).length (ils (lf (S.L ++ [(c : Int)])) (S.L ++ [(c : Int)]).length)) := own_lf (by have h := hown'; rw [HT.out] at h; exact h)
          have hne : ∀ b, b < w.heap.size → some b ≠ (Value.slice la top lc).ownBlock := fun b hb e => by have := (World.ownsRow.lt HO4 b e.symm).1; omega
          have HR5 : Hid (Rgr w5 B (.slice (some ⟨g, 0, none⟩) M cap) M n gs2 cs2 (clr (swp S.R top (top + q)) top c)) := ⟨own_at hR4.row (fun b hb => by
            have e : g = b := by simpa [Value.ownBlock] using hb
            subst e
            exact hgrow.block _ (own_ltg hR4.row) (hne _ HGB.out.2)), fun i hi => own_block (hR4.rows i hi) (hgrow.block _ (own_ltg (hR4.rows i hi)) (hne _ (HGS2.out i hi))), hR4.inj⟩
          clear hown' hgrow HB4 HO4 hR4 hne cb3
          go_wp2
          go_roundw
          case rel => exact ⟨c + 1, by go_num, by omega, by rw [HGN.out, HQ.out]; exact ⟨⟨gs2, cs2, HR5.out, HGS2.out⟩, HO5.out, HB5.out⟩⟩
          case measure => simp [intOf]; omega
      · rw [if_neg hp] at HIX
        have HQ : Hid (stp M c S = S) := stp_no hp
        have HR1 : Hid (Rgr (wr.alloc (.cells #[.int .i64 (c : Int)] 3)) B (.slice (some ⟨g, 0, none⟩) M cap) M n gs1 cs1 S.R) := HR.out.call bw
        have HLD1 : Hid ((wr.alloc (.cells #[.int .i64 (c : Int)] 3)).ownsRow w.heap.size 3 1 (.slice la top lc) S.L.length (ils (lf S.L) S.L.length)) := by have h := own_below HLD.out bw; rw [HT.out] at h ⊢; exact h
        have HB1 : Hid (Below B w (wr.alloc (.cells #[.int .i64 (c : Int)] 3))) := HB.out.alloc (Nat.le_trans hB hsw) _
        clear hp bw
        by_cases hct : top = cap
        · subst hct
          go_wp2_with (go_at_call 47; refine (HIX.out _ _ _ (by omega) (by first | exact .inl rfl | exact .inr (by omega)) (by omega)).mono ?_; rintro e w' ⟨rfl, hw⟩; obtain rfl := hw.symm)
          go_roundw
          case rel => exact ⟨c + 1, by go_num, by omega, by rw [HGN.out, HQ.out]; exact ⟨⟨gs1, cs1, HR1.out, HGS1.out⟩, HLD1.out, HB1.out⟩⟩
          case measure => simp [intOf]; omega
        · go_wp2_with (go_at_call 47; refine (HIX.out _ _ _ (by omega) (by first | exact .inl rfl | exact .inr (by omega)) (by omega)).mono ?_; rintro e w' ⟨rfl, hw⟩; obtain rfl := hw.symm)
          go_roundw
          case rel => exact ⟨c + 1, by go_num, by omega, by rw [HGN.out, HQ.out]; exact ⟨⟨gs1, cs1, HR1.out, HGS1.out⟩, HLD1.out, HB1.out⟩⟩
          case measure => simp [intOf]; omega
    · obtain rfl : c = n := by omega
      go_wp2
      go_ret
      obtain ⟨gs1, cs1, hR, _⟩ := HRL.out.1
      exact ⟨_, rfl, ⟨gs1, cs1, hR⟩, HRL.out.2⟩
end Go.Proofs.Ytnfhnchomiejcaa
