/- Dft2: the document's, of what is no good. -/
import Derived.Test.YtabdondefoldaaaDoorGI
namespace Go.Proofs.YtabdondefoldaaaDoor
open Go.RowKit

theorem sDft_yes {w : World} {v : Value} {n : Nat} {xs : Nat → Int} {p : Int} {back : Bool} (hv : Il w v n xs) (hn : n ≤ 1048576) (hg : GF n xs p) : Calls Tryd.prog 22 #[v, .int .i64 p, .bool back] w fun e w' => Pst w w' e n (dft xs n (dW n p back) (dB n p back) p) true :=
  sDft_any hv hn n _ true (fun _ => ⟨rfl, rfl, rfl⟩) (fun h => absurd hg h)

theorem sDft_no {w : World} {v : Value} {n : Nat} {xs : Nat → Int} {p : Int} {back : Bool} (hv : Il w v n xs) (hn : n ≤ 1048576) (hg : ¬ GF n xs p) (ys : Nat → Int) : Calls Tryd.prog 22 #[v, .int .i64 p, .bool back] w fun e w' => Pst w w' e 0 ys false :=
  sDft_any hv hn 0 ys false (fun h => absurd h hg) (fun _ => ⟨rfl, rfl⟩)

set_option maxRecDepth 20000 in
set_option maxHeartbeats 8000000 in
theorem sDft2_no {w : World} {v : Value} {n : Nat} {ms : Nat → Nat} {T : Nat → Nat → Int} {p : Int} {back : Bool} (hv : Ipp w v n ms T) (hn : n ≤ 1048576) (hms : ∀ i, i < n → ms i ≤ 1048576) (hg : ¬ G2 n (ms 0) ms T p) :
    Calls Tryd.prog 7 #[v, .int .i64 p, .bool back] w fun e w' => No2 w w' e := by
  have i2 := sWhl_any n
  have HG : Hid (¬ G2 n (ms 0) ms T p) := hg
  have HM : Hid (∀ i, i < n → ms i ≤ 1048576) := hms
  clear hg hms
  obtain ⟨ao, cap, rfl, hcap, hx⟩ := hv
  by_cases hw : Whl n
  · rw [decide_eq_true hw] at i2
    have hn1 : 1 ≤ n ∧ n ≤ 256 := by omega
    have HW : Hid (Whl n) := hw
    obtain ⟨b, off, R, rfl, hlt, hcell⟩ := hx (by omega)
    have HC : Hid (b < w.heap.size ∧ ∀ k, k < n → ∃ a cp, w.cell? ⟨b, off + k, none⟩ = some (.slice a (ms k) cp) ∧ Il w (.slice a (ms k) cp) (ms k) (T k)) := ⟨hlt, fun k hk => by
      obtain ⟨h1, h2⟩ := hcell k hk
      obtain ⟨a, cp, e, hq⟩ := h2
      rw [e] at h1
      exact ⟨a, cp, h1, a, cp, rfl, hq⟩⟩
    clear hx hlt hcell hw
    obtain ⟨c, hc⟩ : ∃ c, c = ms 0 := ⟨_, rfl⟩
    have HCC : Hid (c = ms 0) := hc
    clear hc
    go_enter Tryd.func7, Tryd.ntmps7
    go_wp2_with (go_at_call 21; (with_reducible refine (i2 _).mono ?_); rintro e w' ⟨rfl, hw⟩; obtain rfl := hw.symm)
    go_loopw [8, 9] (fun u i wr => ∃ k : Nat, i = .int .i64 k ∧ k ≤ n ∧ Hid ((∃ gs cs, Rgr wr w.heap.size u k c gs cs (dr c p back T)) ∧ Below w.heap.size w wr ∧ ∀ i, i < k → ms i = c ∧ GF c (T i) p)) (fun _ i _ => n - (intOf i).toNat)
    case atStart => exact ⟨0, rfl, by omega, ⟨fun _ => 0, fun _ => 0, Rgr.start w c _ _ _⟩, below_one _ _, fun i hi => by omega⟩
    case round =>
      obtain ⟨k, rfl, hk, hrel⟩ := hrel
      by_cases h1 : k < n
      · obtain ⟨⟨gs, cs, hR⟩, hB, hK⟩ := hrel.out
        have HR : Hid (Rgr wr w.heap.size u8 k c gs cs (dr c p back T)) := hR
        have HB : Hid (Below w.heap.size w wr) := hB
        have HK : Hid (∀ i, i < k → ms i = c ∧ GF c (T i) p) := hK
        obtain ⟨a1, cp1, hc1', hl1⟩ := HC.out.2 k h1
        obtain ⟨a0, cp0, hc0', hl0⟩ := HC.out.2 0 (by omega)
        have x1 := (hB.cell (p := ⟨b, off + k, none⟩) HC.out.1).trans hc1'
        have L1 : Hid (Il wr (.slice a1 (ms k) cp1) (ms k) (T k)) := hl1.below hB
        rw [← HCC.out] at hc0'
        have X0 : Hid (w.cell? ⟨b, off, none⟩ = some (.slice a0 c cp0)) := hc0'
        have hmk := HM.out k h1
        have hm0 := HM.out 0 (by omega)
        rw [← HCC.out] at hm0
        obtain ⟨mk, hmkd⟩ : ∃ mk, mk = ms k := ⟨_, rfl⟩
        rw [← hmkd] at L1 x1 hmk
        have EK : Hid (mk = ms k) := hmkd
        clear hR hB hK hrel hc1' hc0' hl1 hl0 hmkd
        by_cases hf : GF mk (T k) p
        · have i5 := sDft_yes (back := back) L1.out hmk hf
          have HF : Hid (GF mk (T k) p) := hf
          have hc1 : 1 ≤ mk ∧ mk ≤ 256 := by have := hf.2.2; omega
          clear hf
          by_cases he : mk = c
          · subst he
            go_wp2_with (first
              | (go_at_call 22; (with_reducible refine i5.mono ?_); rintro e w2 ⟨u, rfl, ho, hb⟩; obtain ⟨gr, cr, rfl, hgr⟩ := own_some ho hc1.1; obtain ⟨v', w3, hap, hG, hgw⟩ := app_row (HR.out.call hb) (own_base ho HB.out.size) (fun i hi => by have := HR.out.gs_lt hi; omega) (by omega) (Nat.le_trans HB.out.size hb.size); have x0 := ((bstep HB.out hb).cell (p := ⟨b, off, none⟩) HC.out.1).trans X0.out; have HAP : Hid _ := hap; have HG3 : Hid (∃ gs cs, Rgr w3 w.heap.size v' (k + 1) mk gs cs (dr mk p back T)) := ⟨_, _, hG.congr (fun i hi => by by_cases e : i = k; rw [if_pos e, e]; rfl; rw [if_neg e])⟩; have B3 : Hid (Below w.heap.size w w3) := grown_below (bstep (bstep HB.out hb) (below_one _ _)) (Nat.le_refl _) (own_below (HR.out.call hb).row (below_one _ _)) hgw; clear ho hb hap hG hgw hgr)
              | (at_builtin; refine wpList_appr rfl _ _ rfl rfl rfl rfl HAP.out ?_))
            go_roundw
            case rel =>
              refine ⟨k + 1, by go_num, by omega, HG3.out, B3.out, fun i hi => ?_⟩
              by_cases e : i = k
              · subst e; exact ⟨EK.out.symm, HF.out⟩
              · exact HK.out i (by omega)
            case measure => simp [intOf]; omega
          · go_wp2_with (go_at_call 22; (with_reducible refine i5.mono ?_); rintro e w2 ⟨u, rfl, ho, hb⟩; obtain ⟨gr, cr, rfl, hgr⟩ := own_some ho hc1.1; have x0 := ((bstep HB.out hb).cell (p := ⟨b, off, none⟩) HC.out.1).trans X0.out; have B2 : Hid (Below w.heap.size w w2) := bstep HB.out hb; clear ho hb)
            refine bodyPost_ret (v := .tuple #[.slice (some ⟨w2.heap.size, 0, none⟩) 0 0, .bool false]) (by simp [results, Tryd.results7, go_sem]) rfl ?_
            exact ⟨_, rfl, own_base (own_empty w2 29 1) B2.out.size, bstep B2.out (below_one _ _)⟩
        · have i5 := sDft_no (back := back) L1.out hmk hf (fun _ => 0)
          clear hf
          go_wp2_with (go_at_call 22; (with_reducible refine i5.mono ?_); rintro e w2 ⟨u, rfl, ho, hb⟩; have B2 : Hid (Below w.heap.size w w2) := bstep HB.out hb; clear ho hb)
          refine bodyPost_ret (v := .tuple #[.slice (some ⟨w2.heap.size, 0, none⟩) 0 0, .bool false]) (by simp [results, Tryd.results7, go_sem]) rfl ?_
          exact ⟨_, rfl, own_base (own_empty w2 29 1) B2.out.size, bstep B2.out (below_one _ _)⟩
      · obtain rfl : k = n := by omega
        exact absurd ⟨HW.out, by rw [← HCC.out]; exact hrel.out.2.2⟩ HG.out
  · rw [decide_eq_false hw] at i2
    clear hw hx
    go_enter Tryd.func7, Tryd.ntmps7
    go_wp2_with (go_at_call 21; (with_reducible refine (i2 _).mono ?_); rintro e w' ⟨rfl, hw⟩; obtain rfl := hw.symm)
    refine bodyPost_ret (v := .tuple #[.slice (some ⟨w.heap.size, 0, none⟩) 0 0, .bool false]) (by simp [results, Tryd.results7, go_sem]) rfl ?_
    exact ⟨_, rfl, own_empty w 29 1, below_one _ _⟩
end Go.Proofs.YtabdondefoldaaaDoor
