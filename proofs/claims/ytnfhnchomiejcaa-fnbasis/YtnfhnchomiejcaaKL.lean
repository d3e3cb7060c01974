/- The law FnBasis. -/
import Derived.Test.YtnfhnchomiejcaaKM
import Derived.Test.YtnfhnchomiejcaaKN
import Derived.Test.YtnfhnchomiejcaaBE
import Derived.Test.YtnfhnchomiejcaaBG
import Derived.Test.YtnfhnchomiejcaaBH
import Derived.Test.YtnfhnchomiejcaaFA
namespace Go.Proofs.Ytnfhnchomiejcaa
open Go.RowKit

theorem ils_cgr {f g : Nat → Int} {n : Nat} (h : ∀ k, k < n → f k = g k) : ils f n = ils g n := by
  unfold ils
  exact List.map_congr_left fun k hk => by rw [h k (List.mem_range.1 hk)]

theorem lit_ipp (W : World) (x y : Int) (f : Nat → Int) (h0 : f 0 = x) (h1 : f 1 = y) : Ipp ((W.alloc (.cells #[.int .i64 x, .int .i64 y] 3)).alloc (.cells #[.slice (some ⟨W.heap.size, 0, none⟩) 2 2] 29)) (.slice (some ⟨W.heap.size + 1, 0, none⟩) 1 1) 1 (fun _ => 2) (fun _ => f) := by
  refine ⟨_, 1, rfl, Nat.le_refl _, fun _ => ⟨W.heap.size + 1, 0, fun _ => .slice (some ⟨W.heap.size, 0, none⟩) 2 2, rfl, by simp, fun k hk => ⟨?_, ?_⟩⟩⟩
  · obtain rfl : k = 0 := by omega
    simp
  · refine il_of_own (B := W.heap.size) (own_below ?_ (below_one _ _))
    have := World.ownsRow_lit (base := W.heap.size) (e := 3) (size := 1) W #[.int .i64 x, .int .i64 y] 2 (Nat.le_refl _) (by decide) rfl
    have e : ils f 2 = [.int .i64 x, .int .i64 y] := by rw [← h0, ← h1]; rfl
    rw [e]
    exact this

set_option maxRecDepth 50000 in
set_option maxHeartbeats 16000000 in
theorem walk_in {w : World} {a : Option Addr} {len cap : Nat} (hr : Row w a len) (hl : len ≤ 1048576) (hd : Calls Try.prog 9 #[.slice a len cap] w fun e w' => ∃ v j ms X x, e = .returned (.tuple #[v, .int .i64 x]) ∧ j ≤ 64 ∧ (∀ k, ms k ≤ 16) ∧ (0 ≤ x ∧ x ≤ 129) ∧ Ipp w' v j ms X ∧ Below w.heap.size w w') :
    Calls Try.prog 3 #[.slice a len cap] w fun e w' => e = .returned (.bool true) ∧ Below w.heap.size w w' := by
  have i1 := big_x (w := w) a len cap (by omega)
  have e1 : decide (1048576 < (len : Int)) = false := by simp; omega
  rw [e1] at i1
  have HR : Hid (Row w a len) := hr
  obtain ⟨S1, hS1, hS2, hS3⟩ := one_basis
  have HS1 : Hid (S1 = gj 1 (fun i => r0 ((fun _ => xy) i) ((fun _ => 2) i)) 2) := hS1
  have HS2 : Hid ((bsl S1 2).length = 1) := hS2
  have HS3 : Hid (∀ k, k < 1 → ∀ j, j < 2 → wf (bsl S1 2) k j = 1) := hS3
  clear hr e1 hS1 hS2 hS3
  go_enter Try.func3, Try.ntmps3
  go_upto_region 4 with (first
    | (go_at_call 8; (with_reducible refine (i1).mono ?_); rintro e w' ⟨rfl, hw⟩; obtain rfl := hw.symm)
    | (go_at_call 9; refine hd.mono ?_; rintro e w2 ⟨v, j, ms, X, x, rfl, hj, hm, hx, hi, hb⟩; have HI : Hid (Ipp w2 v j ms X) := hi; have HM : Hid (∀ k, ms k ≤ 16) := hm; have B2 : Hid (Below w.heap.size w w2) := hb; clear hi hm hb))
  by_cases hk : Cks j ms X x
  · have hk1 := hk.1.1
    obtain ⟨N, rfl⟩ : ∃ N : Nat, x = (N : Int) := ⟨x.toNat, by omega⟩
    have hN : 1 ≤ N ∧ N ≤ 128 := by omega
    obtain ⟨S, hS⟩ : ∃ S, S = gj j (fun i => r0 (X i) (ms i)) N := ⟨_, rfl⟩
    have j1 := iBasis_good HI.out hk S hS
    have j2 : ∀ W, Ipp W v j ms X → Calls Try.prog 11 #[v, .int .i64 (N : Int)] W fun e w' => Psr W w' e (bsl S N).length N (wf (bsl S N)) true := fun W hW => sBasis_good hW hk S hS
    have HBS : Hid (Bas j N (bsl S N).length ms X (wf (bsl S N))) := bas_of hS
    have HK : Hid (Cks j ms X (N : Int)) := hk
    obtain ⟨NB, hNB⟩ : ∃ NB, NB = (bsl S N).length := ⟨_, rfl⟩
    obtain ⟨Z, hZ⟩ : ∃ Z, Z = wf (bsl S N) := ⟨_, rfl⟩
    rw [← hNB, ← hZ] at j1 j2 HBS
    have hNB2 : NB ≤ N := HBS.out.le
    clear hk hS hk1 hNB hZ HS1 HS2 HS3
    clear S1
    obtain ⟨zs, hzs⟩ := rwz_of HR.out
    have HZS : Hid (Rwz w a len zs) := hzs
    clear hzs
    go_upto_region 11 with (first
      | (go_at_call 10; refine j1.mono ?_; rintro e w3 ⟨u3, rfl, h3, hb3⟩; have R3 : Hid (RG w3 w2.heap.size u3 NB N Z) := h3; have HI : Hid (Ipp w3 v j ms X) := HI.out.below hb3; have B3 : Hid (Below w.heap.size w w3) := bstep B2.out hb3; obtain ⟨g3, c3, h3⟩ := h3; obtain ⟨a3, p3, h3, _, _⟩ := h3.open; subst h3; clear hb3)
      | (go_at_call 11; refine (j2 _ HI.out).mono ?_; rintro e w4 ⟨u4, rfl, ⟨g4, c4, h4⟩, hb4⟩; obtain ⟨a4, p4, h4, _, _⟩ := h4.open; subst h4; have HI : Hid (Ipp w4 v j ms X) := HI.out.below hb4; have R4 : Hid (RG w4 w2.heap.size (.slice a3 NB p3) NB N Z) := R3.out.below hb4; have B4 : Hid (Below w.heap.size w w4) := bstep B3.out hb4; clear hb4))
    clear j1 j2 R3 B3 B2
    obtain ⟨gs, cs, hR⟩ := R4.out
    have HRR : Hid (Rgr w4 w2.heap.size (.slice a3 NB p3) NB N gs cs Z) := hR
    have HA3 : Hid (0 < NB → ∃ g, a3 = some ⟨g, 0, none⟩ ∧ g < w4.heap.size) := fun h0 => by
      obtain ⟨ao, cap', e, _, h2⟩ := hR.open
      injection e with e1 e2 e3
      subst e1
      obtain ⟨g, rfl⟩ := h2 h0
      exact ⟨g, rfl, own_ltg hR.row⟩
    clear hR R4
    have hr := mkd_run w4 (k := N) (by omega)
    have M0 : Hid ((mkd w4 N).ownsRow w4.heap.size 3 1 (.slice (some ⟨w4.heap.size, 0, none⟩) N N) N (ils (fun _ => 0) N)) := mkd_own w4 (by omega) (Nat.le_refl _)
    have MB : Hid (Below w4.heap.size w4 (mkd w4 N)) := mkd_below w4 N
    obtain ⟨fb, hfb⟩ : ∃ fb : Nat → Bool, fb = fun i => atv zs len i % 2 == 0 := ⟨_, rfl⟩
    have HFB : Hid (∀ i, (atv zs len i).tmod 2 = 0 ↔ fb i = true) := fun i => by
      have hz : 0 ≤ atv zs len i := by
        unfold atv
        split
        · rename_i hi
          obtain ⟨_, _, _, _, _, h4, _⟩ := HZS.out i hi
          exact h4
        · omega
      rw [hfb, Int.tmod_eq_emod_of_nonneg hz]
      simp
    clear hfb
    go_upto_region 12 with fail
    generalize mkd w4 N = W5 at *
    clear hr
    go_wp2
    go_loopw [12, 13, 14, 15, 16, 17] (fun ix _ _ _ _ _ wr => ∃ i : Nat, ix = .int .i64 i ∧ i ≤ NB ∧ Hid (wr.ownsRow w4.heap.size 3 1 (.slice (some ⟨w4.heap.size, 0, none⟩) N N) N (ils (wsum fb Z i) N) ∧ Below w4.heap.size w4 wr)) (fun ix _ _ _ _ _ _ => NB - (intOf ix).toNat)
    case atStart => exact ⟨0, rfl, by omega, M0.out, MB.out⟩
    case round =>
      obtain ⟨i, rfl, hi, HO⟩ := hrel
      clear M0 MB
      by_cases h1 : i < NB
      · obtain ⟨g3, rfl, hg3⟩ := HA3.out (by omega)
        have cb := HRR.out.at h1
        have ci : Hid (w4.cell? ⟨g3, i, none⟩ = some (.slice (some ⟨gs i, 0, none⟩) N (cs i))) := cb
        have hgi : gs i < w4.heap.size := HRR.out.gs_lt h1
        have cr : Hid (∀ k, k < N → w4.cell? ⟨gs i, k, none⟩ = some (.int .i64 (Z i k))) := fun k hk => by
          have := (HRR.out.rows i h1).cellAt k (by omega)
          rw [ils_get hk] at this
          exact this
        clear cb
        have cw : wr.cell? ⟨g3, i, none⟩ = some (.slice (some ⟨gs i, 0, none⟩) N (cs i)) := (HO.out.2.cell (p := ⟨g3, i, none⟩) hg3).trans ci.out
        go_upto_region 17 with fail
        clear cw
        have O0 : Hid (wr.ownsRow w4.heap.size 3 1 (.slice (some ⟨w4.heap.size, 0, none⟩) N N) N (ils (fun t => if t < 0 then wsum fb Z (i + 1) t else wsum fb Z i t) N) ∧ Below w4.heap.size w4 wr) := HO.out
        clear HO
        obtain ⟨W6, rfl⟩ : ∃ W6, W6 = wr := ⟨_, rfl⟩
        go_wp2
        go_loopw [13] (fun kx wr => ∃ q : Nat, kx = .int .i64 q ∧ q ≤ N ∧ (fb i = false → q = 0) ∧ Hid (wr.ownsRow w4.heap.size 3 1 (.slice (some ⟨w4.heap.size, 0, none⟩) N N) N (ils (fun t => if t < q then wsum fb Z (i + 1) t else wsum fb Z i t) N) ∧ Below w4.heap.size w4 wr)) (fun kx _ => N - (intOf kx).toNat)
        case atStart => exact ⟨0, rfl, by omega, fun _ => rfl, O0.out⟩
        case round =>
          obtain ⟨q, rfl, hq, hq0, HO⟩ := hrel
          clear O0
          have i13 := at_v (cap := cap) (HZS.out.below (bstep B4.out HO.out.2)) hl (show i ≤ 1048576 by omega)
          by_cases h2 : q < N ∧ fb i = true
          · obtain ⟨h2, hf⟩ := h2
            have et : (atv zs len i).tmod 2 = 0 := (HFB.out i).2 hf
            generalize atv zs len i = av at i13 et
            have c1 : wr.cell? ⟨w4.heap.size, q, none⟩ = some (.int .i64 (wsum fb Z i q)) := by
              have := HO.out.1.cellAt q (by omega)
              rw [ils_get h2, if_neg (by omega)] at this
              exact this
            have z1 := HO.out.1.frozenAt q
            have c2 : wr.cell? ⟨g3, i, none⟩ = some (.slice (some ⟨gs i, 0, none⟩) N (cs i)) := (HO.out.2.cell (p := ⟨g3, i, none⟩) hg3).trans ci.out
            have c3 : wr.cell? ⟨gs i, q, none⟩ = some (.int .i64 (Z i q)) := (HO.out.2.cell (p := ⟨gs i, q, none⟩) hgi).trans (cr.out q h2)
            have hx1 : Bit (wsum fb Z i q) := wsum_bit HBS.out fb i (by omega) q h2
            have hx2 : Bit (Z i q) := HBS.out.bit i q h1 h2
            have ex : xb (wsum fb Z i q) (Z i q) = wsum fb Z (i + 1) q := by show _ = (if fb i = true then _ else _); rw [if_pos hf]
            have hst := (HO.out.1.stored q (.int .i64 (wsum fb Z (i + 1) q))).1
            rw [ils_put] at hst
            have efn : (fun t => if t = q then wsum fb Z (i + 1) q else if t < q then wsum fb Z (i + 1) t else wsum fb Z i t) = fun t => if t < q + 1 then wsum fb Z (i + 1) t else wsum fb Z i t := by
              funext t
              by_cases e1 : t = q
              · subst e1; rw [if_pos rfl, if_pos (by omega)]
              · rw [if_neg e1]
                by_cases e2 : t < q
                · rw [if_pos e2, if_pos (by omega)]
                · rw [if_neg e2, if_neg (by omega)]
            rw [efn] at hst
            have HN1 : Hid ((wr.setCell ⟨w4.heap.size, q, none⟩ (.int .i64 (wsum fb Z (i + 1) q))).ownsRow w4.heap.size 3 1 (.slice (some ⟨w4.heap.size, 0, none⟩) N N) N (ils (fun t => if t < q + 1 then wsum fb Z (i + 1) t else wsum fb Z i t) N) ∧ Below w4.heap.size w4 (wr.setCell ⟨w4.heap.size, q, none⟩ (.int .i64 (wsum fb Z (i + 1) q)))) := ⟨hst, HO.out.2.setCell (Nat.le_refl _) _⟩
            have hne1 : Hid (w4.heap.size ≠ gs i) := by show _ ≠ _; omega
            have hxor : bits .xor .i64 (wsum fb Z i q) (Z i q) = wsum fb Z (i + 1) q := by rw [← ex]; exact xor_bit hx1 hx2
            clear hst efn ex hx1 hx2 HO
            generalize wsum fb Z (i + 1) q = y2 at hxor HN1
            generalize wsum fb Z i q = y0 at c1 hxor
            generalize Z i q = y1 at c3 hxor
            have HF : Hid (fb i = true) := hf
            clear hf hq0
            go_upto_region 20 with (first | (go_at_call 13; (with_reducible refine (i13).mono ?_); rintro e w' ⟨rfl, hw⟩; obtain rfl := hw.symm))
            go_region
            go_wp2
            go_roundw
            case rel => exact ⟨q + 1, by go_num, by omega, fun h => (by rw [HF.out] at h; cases h), own_below HN1.out.1 (Below.refl _ _).drew, HN1.out.2.drew⟩
            case measure => simp [intOf]; omega
          · have HE : Hid (wr.ownsRow w4.heap.size 3 1 (.slice (some ⟨w4.heap.size, 0, none⟩) N N) N (ils (wsum fb Z (i + 1)) N) ∧ Below w4.heap.size w4 wr) := by
              refine ⟨?_, HO.out.2⟩
              have e : ils (fun t => if t < q then wsum fb Z (i + 1) t else wsum fb Z i t) N = ils (wsum fb Z (i + 1)) N := by
                refine ils_cgr fun t ht => ?_
                by_cases e1 : t < q
                · rw [if_pos e1]
                · rw [if_neg e1]
                  have hf : ¬ fb i = true := fun hf => h2 ⟨by omega, hf⟩
                  show _ = (if fb i = true then _ else _)
                  rw [if_neg hf]
              have := HO.out.1
              rw [e] at this
              exact this
            have hcc : ¬ q < N ∨ (q < N ∧ (atv zs len i).tmod 2 ≠ 0) := by
              by_cases e1 : q < N
              · exact .inr ⟨e1, fun e2 => h2 ⟨e1, (HFB.out i).1 e2⟩⟩
              · exact .inl e1
            clear HO h2 hq0
            generalize atv zs len i = av at i13 hcc
            have K1 : Hid (¬ q < N ∨ (q < N ∧ av.tmod 2 ≠ 0)) := hcc
            clear hcc
            obtain ⟨W7, rfl⟩ : ∃ W7, W7 = wr := ⟨_, rfl⟩
            rcases K1.out with h2 | ⟨h2, hodd⟩
            · clear K1
              go_wp2
              go_loopw [14, 15, 16, 17] (fun al kx _ _ wr => ∃ (q : Nat) (b : Bool), al = .bool b ∧ kx = .int .i64 q ∧ q ≤ N ∧ Hid ((∃ p, p < q ∧ Z i p = 1 ∧ ∀ o, o < NB → o ≠ i → Z o p = 0) → b = true) ∧ Hid (W7 = wr)) (fun _ kx _ _ _ => N - (intOf kx).toNat)
              case atStart => exact ⟨0, false, rfl, rfl, by omega, fun ⟨p, hp, _⟩ => absurd hp (by omega), rfl⟩
              case round =>
                obtain ⟨q, b, rfl, rfl, hq, HA, HW⟩ := hrel
                obtain rfl := HW.out
                clear HW
                by_cases h3 : q < N
                · have c2 : W7.cell? ⟨g3, i, none⟩ = some (.slice (some ⟨gs i, 0, none⟩) N (cs i)) := (HE.out.2.cell (p := ⟨g3, i, none⟩) hg3).trans ci.out
                  have c3 : W7.cell? ⟨gs i, q, none⟩ = some (.int .i64 (Z i q)) := (HE.out.2.cell (p := ⟨gs i, q, none⟩) hgi).trans (cr.out q h3)
                  have hz := HBS.out.bit i q h1 h3
                  have HMI : Hid (Z i q = 1 → (decide (Z i q = 1)) = true) := fun h => by simp [h]
                  obtain ⟨m0, hm0⟩ : ∃ m0 : Bool, m0 = decide (Z i q = 1) := ⟨_, rfl⟩
                  have HM0 : Hid (Z i q = 1 → m0 = true) := fun h => by rw [hm0]; simp [h]
                  have hm1 : (Z i q == 1) = m0 := by rw [hm0]; rfl
                  clear HMI hz hm0
                  obtain ⟨zq, hzq⟩ : ∃ zq, zq = Z i q := ⟨_, rfl⟩
                  have HZQ : Hid (zq = Z i q) := hzq
                  rw [← hzq] at c3 hm1
                  clear hzq
                  go_upto_region 26 with fail
                  clear c2 c3 hm1 HZQ
                  go_wp2
                  go_loopw [16, 17] (fun mi ox wr => ∃ (o : Nat) (m : Bool), mi = .bool m ∧ ox = .int .i64 o ∧ o ≤ NB ∧ Hid ((Z i q = 1 ∧ ∀ o', o' < o → o' ≠ i → Z o' q = 0) → m = true) ∧ Hid (W7 = wr)) (fun _ ox _ => NB - (intOf ox).toNat)
                  case atStart => exact ⟨0, m0, rfl, rfl, by omega, fun h => HM0.out h.1, rfl⟩
                  case round =>
                    obtain ⟨o, m, rfl, rfl, ho, HM1, HW⟩ := hrel
                    obtain rfl := HW.out
                    clear HW
                    by_cases h4 : o < NB
                    · cases m with
                      | false =>
                        go_wp2
                        go_roundw
                        case rel => exact ⟨o + 1, false, rfl, by go_num, by omega, fun h => HM1.out ⟨h.1, fun o' h1 h2 => h.2 o' (by omega) h2⟩, (by first | exact rfl | trivial)⟩
                        case measure => simp [intOf]; omega
                      | true =>
                        by_cases h5 : o = i
                        · subst h5
                          go_wp2
                          go_roundw
                          case rel => exact ⟨o + 1, true, rfl, by go_num, by omega, fun _ => rfl, (by first | exact rfl | trivial)⟩
                          case measure => simp [intOf]; omega
                        · have c4 : W7.cell? ⟨g3, o, none⟩ = some (.slice (some ⟨gs o, 0, none⟩) N (cs o)) := (HE.out.2.cell (p := ⟨g3, o, none⟩) hg3).trans (HRR.out.at h4)
                          have c5 : W7.cell? ⟨gs o, q, none⟩ = some (.int .i64 (Z o q)) := by
                            have := (HRR.out.rows o h4).cellAt q (by omega)
                            rw [ils_get h3] at this
                            exact (HE.out.2.cell (p := ⟨gs o, q, none⟩) (HRR.out.gs_lt h4)).trans this
                          obtain ⟨m2, hm2⟩ : ∃ m2 : Bool, m2 = (Z o q == 0) := ⟨_, rfl⟩
                          have HM2 : Hid (Z o q = 0 → m2 = true) := fun h => by rw [hm2]; simp [h]
                          obtain ⟨zo, hzo⟩ : ∃ zo, zo = Z o q := ⟨_, rfl⟩
                          rw [← hzo] at c5 hm2
                          clear hzo
                          have hm3 : (zo == 0) = m2 := hm2.symm
                          clear hm2
                          have h6 : ((o : Int) == (i : Int)) = false := by simp; omega
                          go_wp2
                          go_roundw
                          case rel => exact ⟨o + 1, m2, rfl, by go_num, by omega, fun h => HM2.out (h.2 o (by omega) h5), (by first | exact rfl | trivial)⟩
                          case measure => simp [intOf]; omega
                    · obtain rfl : o = NB := by omega
                      have HFIN : Hid ((∃ p, p < q + 1 ∧ Z i p = 1 ∧ ∀ o', o' < o → o' ≠ i → Z o' p = 0) → (b || m) = true) := by
                        rintro ⟨p, hp, h5, h6⟩
                        by_cases e : p = q
                        · subst e
                          rw [HM1.out ⟨h5, h6⟩]
                          simp
                        · rw [HA.out ⟨p, by omega, h5, h6⟩]
                          rfl
                      clear HA HM1
                      cases b with
                      | false =>
                        go_wp2
                        go_roundw
                        case rel => exact ⟨q + 1, m, rfl, by go_num, by omega, HFIN.out, (by first | exact rfl | trivial)⟩
                        case measure => simp [intOf]; omega
                      | true =>
                        go_wp2
                        go_roundw
                        case rel => exact ⟨q + 1, true, rfl, by go_num, by omega, fun _ => rfl, (by first | exact rfl | trivial)⟩
                        case measure => simp [intOf]; omega
                · have hb : b = true := by
                    obtain ⟨p, hp, h5, h6⟩ := HBS.out.alone i h1
                    exact HA.out ⟨p, by omega, h5, h6⟩
                  subst hb
                  clear HA
                  go_wp2
                  go_roundw
                  case rel => exact ⟨i + 1, by go_num, by omega, HE.out⟩
                  case measure => simp [intOf]; omega
            · clear K1
              have hodd2 : (av.tmod 2 == 0) = false := by simpa using hodd
              go_wp2_with (first | (go_at_call 13; (with_reducible refine (i13).mono ?_); rintro e w' ⟨rfl, hw⟩; obtain rfl := hw.symm))
              go_loopw [14, 15, 16, 17] (fun al kx _ _ wr => ∃ (q : Nat) (b : Bool), al = .bool b ∧ kx = .int .i64 q ∧ q ≤ N ∧ Hid ((∃ p, p < q ∧ Z i p = 1 ∧ ∀ o, o < NB → o ≠ i → Z o p = 0) → b = true) ∧ Hid (W7 = wr)) (fun _ kx _ _ _ => N - (intOf kx).toNat)
              case atStart => exact ⟨0, false, rfl, rfl, by omega, fun ⟨p, hp, _⟩ => absurd hp (by omega), rfl⟩
              case round =>
                obtain ⟨q, b, rfl, rfl, hq, HA, HW⟩ := hrel
                obtain rfl := HW.out
                clear HW
                by_cases h3 : q < N
                · have c2 : W7.cell? ⟨g3, i, none⟩ = some (.slice (some ⟨gs i, 0, none⟩) N (cs i)) := (HE.out.2.cell (p := ⟨g3, i, none⟩) hg3).trans ci.out
                  have c3 : W7.cell? ⟨gs i, q, none⟩ = some (.int .i64 (Z i q)) := (HE.out.2.cell (p := ⟨gs i, q, none⟩) hgi).trans (cr.out q h3)
                  have hz := HBS.out.bit i q h1 h3
                  have HMI : Hid (Z i q = 1 → (decide (Z i q = 1)) = true) := fun h => by simp [h]
                  obtain ⟨m0, hm0⟩ : ∃ m0 : Bool, m0 = decide (Z i q = 1) := ⟨_, rfl⟩
                  have HM0 : Hid (Z i q = 1 → m0 = true) := fun h => by rw [hm0]; simp [h]
                  have hm1 : (Z i q == 1) = m0 := by rw [hm0]; rfl
                  clear HMI hz hm0
                  obtain ⟨zq, hzq⟩ : ∃ zq, zq = Z i q := ⟨_, rfl⟩
                  have HZQ : Hid (zq = Z i q) := hzq
                  rw [← hzq] at c3 hm1
                  clear hzq
                  go_upto_region 26 with fail
                  clear c2 c3 hm1 HZQ
                  go_wp2
                  go_loopw [16, 17] (fun mi ox wr => ∃ (o : Nat) (m : Bool), mi = .bool m ∧ ox = .int .i64 o ∧ o ≤ NB ∧ Hid ((Z i q = 1 ∧ ∀ o', o' < o → o' ≠ i → Z o' q = 0) → m = true) ∧ Hid (W7 = wr)) (fun _ ox _ => NB - (intOf ox).toNat)
                  case atStart => exact ⟨0, m0, rfl, rfl, by omega, fun h => HM0.out h.1, rfl⟩
                  case round =>
                    obtain ⟨o, m, rfl, rfl, ho, HM1, HW⟩ := hrel
                    obtain rfl := HW.out
                    clear HW
                    by_cases h4 : o < NB
                    · cases m with
                      | false =>
                        go_wp2
                        go_roundw
                        case rel => exact ⟨o + 1, false, rfl, by go_num, by omega, fun h => HM1.out ⟨h.1, fun o' h1 h2 => h.2 o' (by omega) h2⟩, (by first | exact rfl | trivial)⟩
                        case measure => simp [intOf]; omega
                      | true =>
                        by_cases h5 : o = i
                        · subst h5
                          go_wp2
                          go_roundw
                          case rel => exact ⟨o + 1, true, rfl, by go_num, by omega, fun _ => rfl, (by first | exact rfl | trivial)⟩
                          case measure => simp [intOf]; omega
                        · have c4 : W7.cell? ⟨g3, o, none⟩ = some (.slice (some ⟨gs o, 0, none⟩) N (cs o)) := (HE.out.2.cell (p := ⟨g3, o, none⟩) hg3).trans (HRR.out.at h4)
                          have c5 : W7.cell? ⟨gs o, q, none⟩ = some (.int .i64 (Z o q)) := by
                            have := (HRR.out.rows o h4).cellAt q (by omega)
                            rw [ils_get h3] at this
                            exact (HE.out.2.cell (p := ⟨gs o, q, none⟩) (HRR.out.gs_lt h4)).trans this
                          obtain ⟨m2, hm2⟩ : ∃ m2 : Bool, m2 = (Z o q == 0) := ⟨_, rfl⟩
                          have HM2 : Hid (Z o q = 0 → m2 = true) := fun h => by rw [hm2]; simp [h]
                          obtain ⟨zo, hzo⟩ : ∃ zo, zo = Z o q := ⟨_, rfl⟩
                          rw [← hzo] at c5 hm2
                          clear hzo
                          have hm3 : (zo == 0) = m2 := hm2.symm
                          clear hm2
                          have h6 : ((o : Int) == (i : Int)) = false := by simp; omega
                          go_wp2
                          go_roundw
                          case rel => exact ⟨o + 1, m2, rfl, by go_num, by omega, fun h => HM2.out (h.2 o (by omega) h5), (by first | exact rfl | trivial)⟩
                          case measure => simp [intOf]; omega
                    · obtain rfl : o = NB := by omega
                      have HFIN : Hid ((∃ p, p < q + 1 ∧ Z i p = 1 ∧ ∀ o', o' < o → o' ≠ i → Z o' p = 0) → (b || m) = true) := by
                        rintro ⟨p, hp, h5, h6⟩
                        by_cases e : p = q
                        · subst e
                          rw [HM1.out ⟨h5, h6⟩]
                          simp
                        · rw [HA.out ⟨p, by omega, h5, h6⟩]
                          rfl
                      clear HA HM1
                      cases b with
                      | false =>
                        go_wp2
                        go_roundw
                        case rel => exact ⟨q + 1, m, rfl, by go_num, by omega, HFIN.out, (by first | exact rfl | trivial)⟩
                        case measure => simp [intOf]; omega
                      | true =>
                        go_wp2
                        go_roundw
                        case rel => exact ⟨q + 1, true, rfl, by go_num, by omega, fun _ => rfl, (by first | exact rfl | trivial)⟩
                        case measure => simp [intOf]; omega
                · have hb : b = true := by
                    obtain ⟨p, hp, h5, h6⟩ := HBS.out.alone i h1
                    exact HA.out ⟨p, by omega, h5, h6⟩
                  subst hb
                  clear HA
                  go_wp2
                  go_roundw
                  case rel => exact ⟨i + 1, by go_num, by omega, HE.out⟩
                  case measure => simp [intOf]; omega
      · obtain rfl : i = NB := by omega
        have j9 := iFails_good (HI.out.below HO.out.2) (il_of_own HO.out.1) ⟨by omega, wsum_bit HBS.out fb i (Nat.le_refl _)⟩ HK.out
        rw [wsum_good HBS.out HK.out fb] at j9
        have B9 : Hid (Below w.heap.size w wr) := bstep B4.out HO.out.2
        clear HO
        go_wp2_with (first
          | (go_at_call 14; refine j9.mono ?_; rintro e w9 ⟨u9, rfl, ho9, hb9⟩; obtain ⟨a9, c9, hu9⟩ := own_slice ho9; subst hu9; have B10 : Hid (Below w.heap.size w w9) := bstep B9.out hb9; clear hb9 ho9))
        go_ret
        exact ⟨rfl, B10.out⟩
  · have j1 := iBasis_bad HI.out (by omega) (fun k _ => by have := HM.out k; omega) hk (fun _ _ => 0)
    have HK : Hid (¬ Cks j ms X x) := hk
    clear hk
    have i4 : ∀ W, Calls Try.prog 10 #[.slice (some ⟨W.heap.size + 1, 0, none⟩) 1 1, .int .i64 2] ((W.alloc (.cells #[.int .i64 0, .int .i64 1] 3)).alloc (.cells #[.slice (some ⟨W.heap.size, 0, none⟩) 2 2] 29)) fun e w' => ∃ u, e = .returned (.tuple #[u, .bool true]) ∧ Ipp w' u 1 (fun _ => 2) (wf (bsl S1 2)) ∧ Below W.heap.size W w' := fun W => by
      refine (iBasis_good (lit_ipp W 0 1 xy rfl rfl) one_check S1 HS1.out).mono ?_
      rintro e w' ⟨u, rfl, h1, h2⟩
      rw [HS2.out] at h1
      exact ⟨u, rfl, h1.ipp, bstep (bstep (below_one _ _) (below_one _ _)) h2⟩
    go_upto_region 9 with (first
      | (go_at_call 10; refine j1.mono ?_; rintro e w3 ⟨u3, rfl, ⟨g3, c3, h3⟩, hb3⟩; obtain ⟨a3, p3, h3, _, _⟩ := h3.open; subst h3; have j2 := sBasis_bad (HI.out.below hb3) (by omega) (fun k _ => by have := HM.out k; omega) HK.out (fun _ _ => 0); have B3 : Hid (Below w.heap.size w w3) := bstep B2.out hb3; clear hb3)
      | (go_at_call 11; refine j2.mono ?_; rintro e w4 ⟨u4, rfl, ⟨g4, c4, h4⟩, hb4⟩; obtain ⟨a4, p4, h4, _, _⟩ := h4.open; subst h4; have B4 : Hid (Below w.heap.size w w4) := bstep B3.out hb4; clear hb4))
    clear j1 j2 HI HM HK B2 B3
    go_upto_region 10 with (first
      | (go_at_call 10; refine (i4 w4).mono ?_; rintro e w5 ⟨u5, rfl, h5, hb5⟩; obtain ⟨a5, p5, hu5, hp5, hq5⟩ := h5; subst hu5; have I5 : Hid (Ipp w5 (.slice a5 1 p5) 1 (fun _ => 2) (wf (bsl S1 2))) := ⟨a5, p5, rfl, hp5, hq5⟩; have B5 : Hid (Below w.heap.size w w5) := bstep B4.out hb5; clear hb5 hp5 hq5))
    clear i4 B4
    have j5 : Calls Try.prog 12 #[.slice a5 1 p5, .slice (some ⟨w5.heap.size + 1, 0, none⟩) 1 1] ((w5.alloc (.cells #[.int .i64 1, .int .i64 1] 3)).alloc (.cells #[.slice (some ⟨w5.heap.size, 0, none⟩) 2 2] 29)) fun e w' => e = .returned (.bool true) ∧ Below w5.heap.size w5 w' := by
      refine (sameR_yes (I5.out.below (bstep (below_one _ _) (below_one _ _))) (lit_ipp w5 1 1 (fun _ => 1) rfl rfl) (fun k hk j hj => HS3.out k hk j hj) (by decide) (fun k _ => (by decide : (2 : Nat) ≤ 1048576))).mono ?_
      rintro e w' ⟨rfl, hb⟩
      exact ⟨rfl, bstep (bstep (below_one _ _) (below_one _ _)) hb⟩
    go_wp2_with (first
      | (go_at_call 12; refine j5.mono ?_; rintro e w6 ⟨rfl, hb6⟩))
    go_ret
    exact ⟨rfl, bstep B5.out hb6⟩

set_option maxHeartbeats 4000000 in
theorem walk_basis {w : World} {a : Option Addr} {n cap : Nat} (hr : Row w a n) (hn : n ≤ 9223372036854775807) : Calls Try.prog 3 #[.slice a n cap] w fun e w' => e = .returned (.bool true) ∧ Below w.heap.size w w' := by
  by_cases hl : n ≤ 1048576
  · exact walk_in hr hl (dbasis_x hr hl)
  · have i1 := big_x (w := w) a n cap hn
    have e1 : decide (1048576 < (n : Int)) = true := by simp; omega
    rw [e1] at i1
    clear e1 hr
    go_enter Try.func3, Try.ntmps3
    go_wp2_with (first | (go_at_call 8; (with_reducible refine (i1).mono ?_); rintro e w' ⟨rfl, hw⟩; obtain rfl := hw.symm))
    go_ret
    exact ⟨rfl, Below.refl _ _⟩
end Go.Proofs.Ytnfhnchomiejcaa
