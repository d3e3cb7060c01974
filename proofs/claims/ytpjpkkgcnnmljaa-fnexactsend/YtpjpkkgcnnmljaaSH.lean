/- Send: the model. -/
import Derived.Test.YtpjpkkgcnnmljaaSG
namespace Go.Proofs.Ytpjpkkgcnnmljaa
open Go.RowKit

set_option maxRecDepth 20000 in
set_option maxHeartbeats 16000000 in
theorem sSend_good {w : World} {n t r d hf ra : Nat} {si : Int} {v : Value} {y : Nat → Int} (hv : Bl w v n y) (hy : Byt n y) (hn : 1 ≤ n ∧ n ≤ 40) (ht : 1 ≤ t ∧ t ≤ 8) (hr : 1 ≤ r ∧ r ≤ 64) (hd : 1 ≤ d ∧ d ≤ 65535) (hra : 1 ≤ ra ∧ ra ≤ 8) (hsi : 1 ≤ si ∧ si ≤ 10000) (hh : Hlf hf) :
    Calls Try.prog 4 #[.agg #[.int .i64 ((2 * hf : Nat) : Int), .int .i64 (t : Int), .int .i64 (r : Int), .int .i64 (d : Int), .int .i64 (ra : Int), .int .i64 si], v] w fun e w' => Ppk w w' e (sM n t hf ra) (sL n t r d hf ra si y) true := by
  obtain ⟨i0, hi, hz0, hz1, hz2⟩ := info_parts Try.info47
  obtain ⟨wi9, hwi⟩ : ∃ wi9 : Int, wi9 = ((2 * hf : Nat) : Int) := ⟨_, rfl⟩
  rw [← hwi]
  have hM : Mok wi9 (t : Int) (r : Int) (d : Int) (ra : Int) si := ⟨by rcases hh with rfl | rfl | rfl | rfl <;> omega, by omega, by omega, by omega, by omega, hsi⟩
  obtain ⟨W1, hW1⟩ : ∃ W1, W1 = ((w.alloc (.cells #[.int .i64 wi9, .int .i64 (t : Int), .int .i64 (r : Int), .int .i64 (d : Int), .int .i64 (ra : Int), .int .i64 si] 28)).alloc (.cells #[] 47)) := ⟨_, rfl⟩
  have i1 := sMok_any wi9 (t : Int) (r : Int) (d : Int) (ra : Int) si W1
  rw [decide_eq_true hM] at i1
  have i2 := fun W => in_one (n : Int) 1 40 W
  rw [decide_eq_true (show 1 ≤ (n : Int) ∧ (n : Int) ≤ 40 by omega)] at i2
  have hq := sQ_b hn ht hh
  obtain ⟨N0, hN0⟩ : ∃ N0, N0 = n + 2 * t := ⟨_, rfl⟩
  obtain ⟨n8, hn8⟩ : ∃ n8, n8 = 8 * (n + 2 * t) := ⟨_, rfl⟩
  obtain ⟨cw, hcw⟩ : ∃ cw, cw = sCw n t y := ⟨_, rfl⟩
  obtain ⟨z0, hz0'⟩ : ∃ z0, z0 = ubv (sCw n t y) := ⟨_, rfl⟩
  obtain ⟨z1, hz1'⟩ : ∃ z1, z1 = sB1 n t r y := ⟨_, rfl⟩
  obtain ⟨z2, hz2'⟩ : ∃ z2, z2 = sB2 n t r d y := ⟨_, rfl⟩
  obtain ⟨z, hz'⟩ : ∃ z, z = sZ n t r d hf y := ⟨_, rfl⟩
  obtain ⟨Q, hQ⟩ : ∃ Q, Q = sQ n t hf := ⟨_, rfl⟩
  have hs0 : (w.alloc (.cells #[.int .i64 wi9, .int .i64 (t : Int), .int .i64 (r : Int), .int .i64 (d : Int), .int .i64 (ra : Int), .int .i64 si] 28)).heap.size = w.heap.size + 1 := Array.size_push _
  have hs1 : W1.heap.size = w.heap.size + 1 + 1 := by rw [hW1, World.size_alloc, hs0]
  have BW1 : Below w.heap.size w W1 := by rw [hW1]; exact bstep (below_one _ _) (below_one _ _)
  have HRC : Hid (∀ W, Below W1.heap.size W1 W → Calls Try.prog 15 #[v, .int .i64 (t : Int)] W fun e w' => Pbo W w' e N0 cw true) := fun W hW => by rw [hN0, hcw]; exact sCode_good (hv.below (bstep BW1 hW)) hy ⟨by omega, by omega, by omega⟩
  have HU8 : Hid (∀ W u, Bl W u N0 cw → Calls Try.prog 16 #[u, .int .i64 (n8 : Int)] W fun e w' => Pst W w' e n8 z0 true) := fun W u hu => by rw [hN0, hcw] at hu; rw [hn8, hz0']; exact sUnp_good hu (sCw_byt n t hy _) (by unfold GUn; omega) (fun i h1 h2 => by omega)
  have HWV : Hid (∀ W u, Il W u n8 z0 → Calls Try.prog 17 #[u, .int .i64 (r : Int)] W fun e w' => Pst W w' e n8 z1 true) := fun W u hu => by rw [hn8, hz0'] at hu; rw [hn8, hz1']; exact sWeave_good hu ⟨by omega, by omega, by omega⟩
  have HST : Hid (∀ W u, Il W u n8 z1 → Calls Try.prog 18 #[u, .int .i64 46080, .int .i64 (d : Int)] W fun e w' => Pst W w' e n8 z2 true) := fun W u hu => by rw [hn8, hz1'] at hu; rw [hn8, hz2']; exact sStir_good (t := 46080) hu ⟨⟨by omega, fun k _ => sB1_bit n t r y k⟩, by omega, by omega⟩
  have HMP : Hid (∀ W u, Il W u n8 z2 → Calls Try.prog 19 #[.int .i64 wi9, u] W fun e w' => Ppk W w' e Q z true) := fun W u hu => by rw [hn8, hz2'] at hu; rw [hwi, hQ, hz']; exact sMap_good hu ⟨by omega, fun k _ => sB2_bit n t r d y k⟩ hh rfl
  have HZB : Hid (∀ k, -1000 ≤ sq z k ∧ sq z k ≤ 1000) := fun k => by
    rw [hz']
    unfold sq
    split
    · omega
    · split
      · omega
      · exact sZ_b n t r d y hh _
  have e8 : (8 : Int) * (N0 : Int) = (n8 : Int) := by omega
  have HQ : Hid (∀ W, Below W1.heap.size W1 W → W.cell? ⟨w.heap.size, 0, none⟩ = some (.int .i64 wi9) ∧ W.cell? ⟨w.heap.size, 1, none⟩ = some (.int .i64 (t : Int)) ∧ W.cell? ⟨w.heap.size, 2, none⟩ = some (.int .i64 (r : Int)) ∧ W.cell? ⟨w.heap.size, 3, none⟩ = some (.int .i64 (d : Int)) ∧ W.cell? ⟨w.heap.size, 4, none⟩ = some (.int .i64 (ra : Int)) ∧ W.cell? ⟨w.heap.size, 5, none⟩ = some (.int .i64 si)) := fun W hW => by
    have hl : w.heap.size < W1.heap.size := by omega
    refine ⟨(hW.cell hl).trans ?_, (hW.cell hl).trans ?_, (hW.cell hl).trans ?_, (hW.cell hl).trans ?_, (hW.cell hl).trans ?_, (hW.cell hl).trans ?_⟩ <;> (rw [hW1]; simp [go_sem])
  have HOU : Hid (W1.ownsRow w.heap.size 47 2 (.slice (some ⟨w.heap.size + 1, 0, none⟩) 0 0) 0 []) := by
    have h9 := own_base (B' := w.heap.size) (own_empty (w.alloc (.cells #[.int .i64 wi9, .int .i64 (t : Int), .int .i64 (r : Int), .int .i64 (d : Int), .int .i64 (ra : Int), .int .i64 si] 28)) 47 2) (by omega)
    rw [hs0] at h9
    rw [hW1]
    exact h9
  have HBW : Hid (Below w.heap.size w W1) := BW1
  have HLT : Hid (w.heap.size < W1.heap.size) := by show _ < _; omega
  have HS1 : Hid (W1.heap.size = w.heap.size + 1 + 1) := hs1
  have HMM : Hid (sM n t hf ra = (1 + Q) * ra ∧ sL n t r d hf ra si y = zf (hld z ra si ((1 + Q) * ra))) := by rw [hQ, hz']; exact ⟨rfl, rfl⟩
  have hQb : 1 ≤ Q ∧ Q ≤ 230 := by rw [hQ]; exact hq
  have hNb : N0 ≤ 56 ∧ n8 ≤ 448 := by omega
  have W1e : Hid (W1 = ((w.alloc (.cells #[.int .i64 wi9, .int .i64 (t : Int), .int .i64 (r : Int), .int .i64 (d : Int), .int .i64 (ra : Int), .int .i64 si] 28)).alloc (.cells #[] 47))) := hW1
  obtain ⟨ao, cap, hv9, _, _⟩ := hv
  subst hv9
  clear hM hy hh hwi hq hN0 hn8 hcw hz0' hz1' hz2' hz' hQ hs0 hs1 BW1 hW1
  go_enter Try.func4, Try.ntmps4
  go_upto_region 2 with fail
  rw [← W1e.out]
  obtain ⟨q0, q1, q2, q3, q4, q5⟩ := HQ.out _ (Below.refl _ _)
  go_wp2_with (first
    | (go_at_call 13; refine i1.mono ?_; rintro e w2 ⟨rfl, hb⟩; have B1 : Hid (Below W1.heap.size W1 w2) := hb; obtain ⟨q0, q1, q2, q3, q4, q5⟩ := HQ.out _ B1.out; clear hb)
    | (go_at_call 14; (with_reducible refine (i2 _).mono ?_); rintro e w' ⟨rfl, hw⟩; obtain rfl := hw.symm)
    | (go_at_call 15; refine (HRC.out _ B1.out).mono ?_; rintro e w3 ⟨ub, rfl, ho, hb⟩; obtain ⟨uba, ubc, h9⟩ := own_sliceb ho; subst h9; have B2 : Hid (Below W1.heap.size W1 w3) := bstep B1.out hb; have XB2 : Hid (Bl w3 (.slice uba N0 ubc) N0 cw) := bl_of_own ho; obtain ⟨q0, q1, q2, q3, q4, q5⟩ := HQ.out _ B2.out; clear hb ho)
    | (go_at_call 16; refine (HU8.out _ _ XB2.out).mono ?_; rintro e w4 ⟨uu, rfl, ho, hb⟩; obtain ⟨uua, uuc, h9⟩ := own_slicei ho; subst h9; have B3 : Hid (Below W1.heap.size W1 w4) := bstep B2.out hb; have XB3 : Hid (Il w4 (.slice uua n8 uuc) n8 z0) := il_of_own ho; obtain ⟨q0, q1, q2, q3, q4, q5⟩ := HQ.out _ B3.out; clear hb ho)
    | (go_at_call 17; refine (HWV.out _ _ XB3.out).mono ?_; rintro e w5 ⟨uw, rfl, ho, hb⟩; obtain ⟨uwa, uwc, h9⟩ := own_slicei ho; subst h9; have B4 : Hid (Below W1.heap.size W1 w5) := bstep B3.out hb; have XB4 : Hid (Il w5 (.slice uwa n8 uwc) n8 z1) := il_of_own ho; obtain ⟨q0, q1, q2, q3, q4, q5⟩ := HQ.out _ B4.out; clear hb ho)
    | (go_at_call 18; refine (HST.out _ _ XB4.out).mono ?_; rintro e w6 ⟨us, rfl, ho, hb⟩; obtain ⟨usa, usc, h9⟩ := own_slicei ho; subst h9; have B5 : Hid (Below W1.heap.size W1 w6) := bstep B4.out hb; have XB5 : Hid (Il w6 (.slice usa n8 usc) n8 z2) := il_of_own ho; obtain ⟨q0, q1, q2, q3, q4, q5⟩ := HQ.out _ B5.out; clear hb ho)
    | (go_at_call 19; refine (HMP.out _ _ XB5.out).mono ?_; rintro e w7 ⟨up, rfl, ho, hb⟩; obtain ⟨upa, upc, h9⟩ := own_slicep ho; subst h9; have B6 : Hid (Below W1.heap.size W1 w7) := bstep B5.out hb; have XB6 : Hid (w7.ownsRow w6.heap.size 47 2 (.slice upa Q upc) Q (ils z (Q * 2))) := ho; obtain ⟨q0, q1, q2, q3, q4, q5⟩ := HQ.out _ B6.out; clear ho hb))
  have HS7 : Hid (w7.ownsRow w.heap.size 47 2 (.slice upa Q upc) Q (ils z (Q * 2))) := own_base XB6.out (Nat.le_trans HBW.out.size B5.out.size)
  have HO7 : Hid (w7.ownsRow w.heap.size 47 2 (.slice (some ⟨w.heap.size + 1, 0, none⟩) 0 0) 0 []) := own_below HOU.out B6.out
  have HA7 : Hid (Apart (.slice (some ⟨w.heap.size + 1, 0, none⟩) 0 0) (.slice upa Q upc)) := .inr (fun h9 => by
    have e1 := (World.ownsRow.lt XB6.out (w.heap.size + 1) h9.symm).1
    have e2 := B5.out.size
    have e3 := HS1.out
    omega)
  have HN7 : Hid (some w.heap.size ≠ (Value.slice (some ⟨w.heap.size + 1, 0, none⟩) 0 0).ownBlock) := by show _ ≠ _; simp [Value.ownBlock]
  have HB7 : Hid (Below w.heap.size w w7) := bstep HBW.out B6.out
  have HC7 : Hid (w7.cell? ⟨w.heap.size, 4, none⟩ = some (.int .i64 (ra : Int)) ∧ w7.cell? ⟨w.heap.size, 5, none⟩ = some (.int .i64 si)) := ⟨q4, q5⟩
  clear q0 q1 q2 q3 q4 q5
  generalize (.slice (some ⟨w.heap.size + 1, 0, none⟩) 0 0 : Value) = b0 at HO7 HA7 HN7 ⊢
  clear HRC HU8 HWV HST HMP HQ HOU XB2 XB3 XB4 XB5 XB6 B1 B2 B3 B4 B5 B6 i1 i2
  go_loopw [6, 13] (fun ov kv wr => ∃ k : Nat, kv = .int .i64 (k : Int) ∧ k ≤ ra ∧ Hid (wr.ownsRow w.heap.size 47 2 ov (k) (ils (zf (hld z ra si (k))) ((k) * 2)) ∧ wr.ownsRow w.heap.size 47 2 (.slice upa Q upc) Q (ils z (Q * 2)) ∧ Apart ov (.slice upa Q upc) ∧ (some w.heap.size ≠ ov.ownBlock) ∧ Below w.heap.size w wr ∧ wr.cell? ⟨w.heap.size, 4, none⟩ = some (.int .i64 (ra : Int)) ∧ wr.cell? ⟨w.heap.size, 5, none⟩ = some (.int .i64 si))) (fun _ kv _ => ra - (intOf kv).toNat)
  case atStart => exact ⟨0, rfl, by omega, HO7.out, HS7.out, HA7.out, HN7.out, HB7.out, HC7.out.1, HC7.out.2⟩
  case round =>
    clear HO7 HS7 HA7 HN7 HB7 HC7
    obtain ⟨k, rfl, hk, hrel⟩ := hrel
    have q4 := hrel.out.2.2.2.2.2.1
    have q5 := hrel.out.2.2.2.2.2.2
    by_cases h1 : k < ra
    · have HM : Hid (hld z ra si (k + 1) = hld z ra si k ++ [(32 * si, 0)]) := by
        show _ = _
        rw [hld_snoc, Nat.div_eq_of_lt h1]
        show _ ++ [((32 : Int) * si, (0 : Int) * si)] = _
        rw [Int.zero_mul]
      have hb3 := below_one wr (.cells #[.int .i64 (32 * si), .int .i64 0] 47)
      have HO3 : Hid ((wr.alloc (.cells #[.int .i64 (32 * si), .int .i64 0] 47)).ownsRow w.heap.size 47 2 u6 k (ils (zf (hld z ra si k)) (k * 2))) := own_below hrel.out.1 hb3
      have HP3 : Hid ((wr.alloc (.cells #[.int .i64 (32 * si), .int .i64 0] 47)).ownsRow w.heap.size 47 2 (.slice upa Q upc) Q (ils z (Q * 2))) := own_below hrel.out.2.1 hb3
      have HA : Hid (Apart u6 (.slice upa Q upc)) := hrel.out.2.2.1
      have HNB : Hid (some w.heap.size ≠ u6.ownBlock) := hrel.out.2.2.2.1
      have HB3 : Hid (Below w.heap.size w (wr.alloc (.cells #[.int .i64 (32 * si), .int .i64 0] 47))) := bstep hrel.out.2.2.2.2.1 hb3
      have hbx : w.heap.size < wr.heap.size := World.block_lt_of_cell? wr _ q4
      have HBX : Hid (w.heap.size < (wr.alloc (.cells #[.int .i64 (32 * si), .int .i64 0] 47)).heap.size) := Nat.lt_of_lt_of_le hbx hb3.size
      have HC3 : Hid ((wr.alloc (.cells #[.int .i64 (32 * si), .int .i64 0] 47)).cell? ⟨w.heap.size, 4, none⟩ = some (.int .i64 (ra : Int)) ∧ (wr.alloc (.cells #[.int .i64 (32 * si), .int .i64 0] 47)).cell? ⟨w.heap.size, 5, none⟩ = some (.int .i64 si)) := ⟨(hb3.cell hbx).trans q4, (hb3.cell hbx).trans q5⟩
      clear hrel hb3
      go_wp2_with (first
        | (at_builtin; refine wpList_app _ rfl _ _ 25 rfl w.heap.size 47 i0 (.agg #[.int .i64 0, .int .i64 0]) 2 16 Try.underlying25 hi hz0 hz1 hz2 rfl (by decide) _ _ _ rfl HO3.out ⟨wr.heap.size, 0, none⟩ 1 1 [.int .i64 (32 * si), .int .i64 0] rfl rfl (fun j u h => two_new wr _ _ 47 j u h) (by simp [Value.oneCell']) (by unfold maxLen; omega) (by omega) HB3.out.size (by omega) ?_; intro v' w8 hown' hgrow hwh; have HO8 : Hid (w8.ownsRow w.heap.size 47 2 v' (k + 1) (ils (zf (hld z ra si (k + 1))) ((k + 1) * 2))) := (by have e9 := zf_snoc (hld z ra si k) (32 * si) 0; rw [hld_len] at e9; rw [HM.out, e9]; exact hown'); have HP8 : Hid (w8.ownsRow w.heap.size 47 2 (.slice upa Q upc) Q (ils z (Q * 2))) := own_grown HP3.out hgrow (apart_symm HA.out); have HA8 : Hid (Apart v' (.slice upa Q upc)) := apart_symm (apart_app HP3.out (apart_symm HA.out) (hwh.imp id (fun x => x.1))); have HC8 : Hid (w8.cell? ⟨w.heap.size, 4, none⟩ = some (.int .i64 (ra : Int)) ∧ w8.cell? ⟨w.heap.size, 5, none⟩ = some (.int .i64 si)) := ⟨(World.cell?_of_block (hgrow.block w.heap.size HBX.out HNB.out)).trans HC3.out.1, (World.cell?_of_block (hgrow.block w.heap.size HBX.out HNB.out)).trans HC3.out.2⟩; have HN8 : Hid (some w.heap.size ≠ v'.ownBlock) := hwh.elim (fun h9 => by show _ ≠ _; rw [h9]; exact HNB.out) (fun h9 => by show _ ≠ _; rw [h9.1]; intro h8; injection h8 with h8; have := HBX.out; omega); have HB8 : Hid (Below w.heap.size w w8) := grown_below HB3.out (Nat.le_refl _) HO3.out hgrow; clear hown' hgrow hwh))
      go_roundw
      case rel => exact ⟨k + 1, by go_num, by omega, HO8.out, HP8.out, HA8.out, HN8.out, HB8.out, HC8.out.1, HC8.out.2⟩
      case measure => simp [intOf]; omega
    · obtain rfl : k = ra := by omega
      have HO7 : Hid _ := hrel.out.1
      have HR7 : Hid (wr.ownsRow w.heap.size 47 2 u6 ((1 + 0) * k) (ils (zf (hld z k si ((1 + 0) * k))) (((1 + 0) * k) * 2)) ∧ wr.ownsRow w.heap.size 47 2 (.slice upa Q upc) Q (ils z (Q * 2)) ∧ Apart u6 (.slice upa Q upc) ∧ (some w.heap.size ≠ u6.ownBlock) ∧ Below w.heap.size w wr ∧ wr.cell? ⟨w.heap.size, 4, none⟩ = some (.int .i64 (k : Int)) ∧ wr.cell? ⟨w.heap.size, 5, none⟩ = some (.int .i64 si)) := by
        have e9 : (1 + 0) * k = k := by omega
        rw [e9]
        exact hrel.out
      clear hrel HO7
      go_wp2
      go_loopw [6, 14, 15] (fun ov iv _ w6 => ∃ i : Nat, iv = .int .i64 (i : Int) ∧ i ≤ Q ∧ Hid (w6.ownsRow w.heap.size 47 2 ov ((1 + i) * k) (ils (zf (hld z k si ((1 + i) * k))) (((1 + i) * k) * 2)) ∧ w6.ownsRow w.heap.size 47 2 (.slice upa Q upc) Q (ils z (Q * 2)) ∧ Apart ov (.slice upa Q upc) ∧ (some w.heap.size ≠ ov.ownBlock) ∧ Below w.heap.size w w6 ∧ w6.cell? ⟨w.heap.size, 4, none⟩ = some (.int .i64 (k : Int)) ∧ w6.cell? ⟨w.heap.size, 5, none⟩ = some (.int .i64 si))) (fun _ iv _ _ => Q - (intOf iv).toNat)
      case atStart => exact ⟨0, rfl, by omega, HR7.out⟩
      case round =>
        rename World => w6
        clear HR7
        obtain ⟨i, rfl, hiQ, hrel⟩ := hrel
        by_cases h2 : i < Q
        · obtain ⟨g, hg9⟩ : ∃ g, upa = some ⟨g, 0, none⟩ := by
            rcases hrel.out.2.1.2 with ⟨_, h3⟩ | ⟨g, cap', cur, h3, _⟩
            · omega
            · injection h3 with h3
              exact ⟨g, h3⟩
          subst hg9
          obtain ⟨xx, hX⟩ : ∃ xx, xx = sq z ((1 + i) * 2) := ⟨_, rfl⟩
          obtain ⟨yy, hY⟩ : ∃ yy, yy = sq z ((1 + i) * 2 + 1) := ⟨_, rfl⟩
          have hxz : z (i * 2) = xx := by rw [hX]; unfold sq; rw [if_neg (by omega), if_neg (by omega), show (1 + i) * 2 - 2 = i * 2 by omega]
          have hyz : z (i * 2 + 1) = yy := by rw [hY]; unfold sq; rw [if_neg (by omega), if_neg (by omega), show (1 + i) * 2 + 1 - 2 = i * 2 + 1 by omega]
          have hxb : -1000 ≤ xx ∧ xx ≤ 1000 := by rw [hX]; exact HZB.out _
          have hyb : -1000 ≤ yy ∧ yy ≤ 1000 := by rw [hY]; exact HZB.out _
          have HXY : Hid (xx = sq z ((1 + i) * 2) ∧ yy = sq z ((1 + i) * 2 + 1)) := ⟨hX, hY⟩
          have HZZ : Hid (z (i * 2) = xx ∧ z (i * 2 + 1) = yy) := ⟨hxz, hyz⟩
          have b1 : -10000000 ≤ xx * si ∧ xx * si ≤ 10000000 := prod_b hxb hsi
          have b2 : -10000000 ≤ yy * si ∧ yy * si ≤ 10000000 := prod_b hyb hsi
          have HRI : Hid (w6.ownsRow w.heap.size 47 2 u6 ((1 + i) * k + 0) (ils (zf (hld z k si ((1 + i) * k + 0))) (((1 + i) * k + 0) * 2)) ∧ w6.ownsRow w.heap.size 47 2 (.slice (some ⟨g, 0, none⟩) Q upc) Q (ils z (Q * 2)) ∧ Apart u6 (.slice (some ⟨g, 0, none⟩) Q upc) ∧ (some w.heap.size ≠ u6.ownBlock) ∧ Below w.heap.size w w6 ∧ w6.cell? ⟨w.heap.size, 4, none⟩ = some (.int .i64 (k : Int)) ∧ w6.cell? ⟨w.heap.size, 5, none⟩ = some (.int .i64 si)) := hrel.out
          clear hX hY hxz hyz hrel
          go_wp2
          go_loopw [6, 15] (fun ov jv w9 => ∃ j : Nat, jv = .int .i64 (j : Int) ∧ j ≤ k ∧ Hid (w9.ownsRow w.heap.size 47 2 ov ((1 + i) * k + j) (ils (zf (hld z k si ((1 + i) * k + j))) (((1 + i) * k + j) * 2)) ∧ w9.ownsRow w.heap.size 47 2 (.slice (some ⟨g, 0, none⟩) Q upc) Q (ils z (Q * 2)) ∧ Apart ov (.slice (some ⟨g, 0, none⟩) Q upc) ∧ (some w.heap.size ≠ ov.ownBlock) ∧ Below w.heap.size w w9 ∧ w9.cell? ⟨w.heap.size, 4, none⟩ = some (.int .i64 (k : Int)) ∧ w9.cell? ⟨w.heap.size, 5, none⟩ = some (.int .i64 si))) (fun _ jv _ => k - (intOf jv).toNat)
          case atStart => exact ⟨0, rfl, by omega, HRI.out⟩
          case round =>
            rename World => w9
            clear HRI
            obtain ⟨j, rfl, hj, hrel⟩ := hrel
            have q4 := hrel.out.2.2.2.2.2.1
            have q5 := hrel.out.2.2.2.2.2.2
            by_cases h3 : j < k
            · obtain ⟨m, hm⟩ : ∃ m, m = (1 + i) * k + j := ⟨_, rfl⟩
              rw [← hm] at hrel
              have hmq : m / k = 1 + i := by rw [hm, Nat.mul_comm (1 + i) k, Nat.mul_add_div (by omega), Nat.div_eq_of_lt h3, Nat.add_zero]
              have HM : Hid (hld z k si (m + 1) = hld z k si m ++ [(xx * si, yy * si)]) := by show _ = _; rw [hld_snoc, hmq, ← HXY.out.1, ← HXY.out.2]
              have hm6 : m ≤ 10000 := by
                have h9 : (1 + i) * k ≤ 231 * 8 := Nat.mul_le_mul (by omega) hra.2
                omega
              have HMQ : Hid (m = (1 + i) * k + j) := hm
              have HSR : Hid _ := hrel.out.2.1
              have HAP : Hid (Apart _ _) := hrel.out.2.2.1
              have HGB : Hid (some w.heap.size ≠ u6.ownBlock) := hrel.out.2.2.2.1
              have d0 := own2_cell hrel.out.2.1 (j := i * 2) (by omega)
              have d1 := own2_cell hrel.out.2.1 (j := i * 2 + 1) (by omega)
              rw [HZZ.out.1] at d0
              rw [HZZ.out.2] at d1
              have hgl : g < w9.heap.size := World.block_lt_of_cell? w9 _ d0
              have hbl : w.heap.size < w9.heap.size := World.block_lt_of_cell? w9 _ q5
              have HB30 : Hid (Below w9.heap.size w9 (w9.alloc (.cells #[.int .i64 (xx * si), .int .i64 (yy * si)] 47)).drew) := (below_one w9 _).drew
              have HO3 : Hid ((w9.alloc (.cells #[.int .i64 (xx * si), .int .i64 (yy * si)] 47)).drew.ownsRow w.heap.size 47 2 u6 m (ils (zf (hld z k si m)) (m * 2))) := own_below hrel.out.1 HB30.out
              have HB3 : Hid (Below w.heap.size w (w9.alloc (.cells #[.int .i64 (xx * si), .int .i64 (yy * si)] 47)).drew) := bstep hrel.out.2.2.2.2.1 HB30.out
              have I1 : (w9.alloc (.cells #[.int .i64 (xx * si), .int .i64 (yy * si)] 47)).drew.cell? ⟨g, i * 2, none⟩ = some (.int .i64 xx) ∧ (w9.alloc (.cells #[.int .i64 (xx * si), .int .i64 (yy * si)] 47)).drew.cell? ⟨g, i * 2 + 1, none⟩ = some (.int .i64 yy) ∧ (w9.alloc (.cells #[.int .i64 (xx * si), .int .i64 (yy * si)] 47)).drew.cell? ⟨w.heap.size, 5, none⟩ = some (.int .i64 si) := ⟨(HB30.out.cell hgl).trans d0, (HB30.out.cell hgl).trans d1, (HB30.out.cell hbl).trans q5⟩
              clear hm hmq hrel
              go_upto_region 19 with fail
              refine wp_region_any (by kernel_rfl) ?_
              change wpAny _ _ _ _ _ _ _ (World.drew _)
              refine wpI_any (I := fun Z => Z.cell? ⟨g, i * 2, none⟩ = some (.int .i64 xx) ∧ Z.cell? ⟨g, i * 2 + 1, none⟩ = some (.int .i64 yy) ∧ Z.cell? ⟨w.heap.size, 5, none⟩ = some (.int .i64 si)) _ _ _ _ ?_
              refine wpI_take (i := 0) (v := ?_) rfl (by kernel_rfl) (by kernel_rfl) (by kernel_rfl) (fun _ _ _ h => h) ⟨by rfl, ?_⟩ ?_
              rotate_left
              · intro X hI; go_simp; try go_bits
                try rw [if_pos (by omega)]
                try with_reducible rfl
              refine wpI_take (i := 1) (v := ?_) rfl (by kernel_rfl) (by kernel_rfl) (by kernel_rfl) (fun _ _ _ h => h) ⟨by rfl, ?_⟩ ?_
              rotate_left
              · intro X hI; go_simp; try go_bits
                try rw [if_pos (by omega)]
                try with_reducible rfl
              refine wpI_take (i := 2) (v := ?_) rfl (by kernel_rfl) (by kernel_rfl) (by kernel_rfl) (fun _ _ _ h => h) ⟨by rfl, ?_⟩ ?_
              rotate_left
              · intro X hI; go_simp; try go_bits
                try rw [if_pos (by omega)]
                try with_reducible rfl
              refine wpI_take (i := 3) (v := ?_) rfl (by kernel_rfl) (by kernel_rfl) (by kernel_rfl) (fun _ _ _ h => h) ⟨by rfl, ?_⟩ ?_
              rotate_left
              · intro X hI; go_simp; try go_bits
                try rw [if_pos (by omega)]
                try with_reducible rfl
              refine wpI_take (i := 4) (v := ?_) rfl (by kernel_rfl) (by kernel_rfl) (by kernel_rfl) (fun _ _ _ h => h) ⟨by rfl, ?_⟩ ?_
              rotate_left
              · intro X hI; go_simp; try go_bits
                try rw [if_pos (by omega)]
                try with_reducible rfl
              refine wpI_take (i := 5) (v := ?_) rfl (by kernel_rfl) (by kernel_rfl) (by kernel_rfl) (fun _ _ _ h => h) ⟨by rfl, ?_⟩ ?_
              rotate_left
              · intro X hI; obtain ⟨q0, q1, q5⟩ := hI; go_simp; try go_bits
                try rw [if_pos (by omega)]
                try with_reducible rfl
              refine wpI_take (i := 6) (v := ?_) rfl (by kernel_rfl) (by kernel_rfl) (by kernel_rfl) (fun _ _ _ h => h) ⟨by rfl, ?_⟩ ?_
              rotate_left
              · intro X hI; go_simp; try go_bits
                try rw [if_pos (by omega)]
                try with_reducible rfl
              refine wpI_take (i := 7) (v := ?_) rfl (by kernel_rfl) (by kernel_rfl) (by kernel_rfl) (fun _ _ _ h => h) ⟨by rfl, ?_⟩ ?_
              rotate_left
              · intro X hI; obtain ⟨q0, q1, q5⟩ := hI; go_simp; try go_bits
                try rw [if_pos (by omega)]
                try with_reducible rfl
              refine wpI_take (i := 8) (v := ?_) rfl (by kernel_rfl) (by kernel_rfl) (by kernel_rfl) (fun _ _ _ h => h) ⟨by rfl, ?_⟩ ?_
              rotate_left
              · intro X hI; go_simp; try go_bits
                try rw [if_pos (by omega)]
                try with_reducible rfl
              refine wpI_take (i := 9) (v := ?_) rfl (by kernel_rfl) (by kernel_rfl) (by kernel_rfl) (fun _ _ _ h => h) ⟨by rfl, ?_⟩ ?_
              rotate_left
              · intro X hI; go_simp; try go_bits
                try rw [if_pos (by omega)]
                try with_reducible rfl
              refine wpI_take (i := 10) (v := ?_) rfl (by kernel_rfl) (by kernel_rfl) (by kernel_rfl) (fun _ _ _ h => h) ⟨by rfl, ?_⟩ ?_
              rotate_left
              · intro X hI; go_simp; try go_bits
                try rw [if_pos (by omega)]
                try with_reducible rfl
              refine wpI_take (i := 11) (v := ?_) rfl (by kernel_rfl) (by kernel_rfl) (by kernel_rfl) (fun _ _ _ h => h) ⟨by rfl, ?_⟩ ?_
              rotate_left
              · intro X hI; go_simp; try go_bits
                try rw [if_pos (by omega)]
                try with_reducible rfl
              refine wpI_take (i := 12) (v := ?_) rfl (by kernel_rfl) (by kernel_rfl) (by kernel_rfl) (fun _ _ _ h => h) ⟨by rfl, ?_⟩ ?_
              rotate_left
              · intro X hI; go_simp; try go_bits
                try rw [if_pos (by omega)]
                try with_reducible rfl
              refine wpI_take (i := 13) (v := ?_) rfl (by kernel_rfl) (by kernel_rfl) (by kernel_rfl) (fun _ _ _ h => h) ⟨by rfl, ?_⟩ ?_
              rotate_left
              · intro X hI; obtain ⟨q0, q1, q5⟩ := hI; go_simp; try go_bits
                try rw [if_pos (by omega)]
                try with_reducible rfl
              refine wpI_take (i := 14) (v := ?_) rfl (by kernel_rfl) (by kernel_rfl) (by kernel_rfl) (fun _ _ _ h => h) ⟨by rfl, ?_⟩ ?_
              rotate_left
              · intro X hI; go_simp; try go_bits
                try rw [if_pos (by omega)]
                try with_reducible rfl
              refine wpI_take (i := 15) (v := ?_) rfl (by kernel_rfl) (by kernel_rfl) (by kernel_rfl) (fun _ _ _ h => h) ⟨by rfl, ?_⟩ ?_
              rotate_left
              · intro X hI; obtain ⟨q0, q1, q5⟩ := hI; go_simp; try go_bits
                try rw [if_pos (by omega)]
                try with_reducible rfl
              refine wpI_take (i := 16) (v := ?_) rfl (by kernel_rfl) (by kernel_rfl) (by kernel_rfl) (fun _ _ _ h => h) ⟨by rfl, ?_⟩ ?_
              rotate_left
              · intro X hI; go_simp; try go_bits
                try rw [if_pos (by omega)]
                try with_reducible rfl
              refine wpI_take (i := 17) (v := ?_) rfl (by kernel_rfl) (by kernel_rfl) (by kernel_rfl) (fun _ _ _ h => h) ⟨by rfl, ?_⟩ ?_
              rotate_left
              · intro X hI; go_simp; try go_bits
                try rw [if_pos (by omega)]
                try with_reducible rfl
              refine wpI_only (i := 18) rfl (by kernel_rfl) ⟨d0, d1, q5⟩ (by rfl) ?_
              intro K hK
              go_simp
              try go_bits
              refine hK _ _ ?_
              clear hK K
              refine wpI_only (i := 19) rfl (by kernel_rfl) I1 (by rfl) ?_
              intro K hK
              refine wp_app _ _ _ 25 rfl w.heap.size 47 i0 (.agg #[.int .i64 0, .int .i64 0]) 2 16 Try.underlying25 hi hz0 hz1 hz2 rfl (by decide) _ _ _ rfl HO3.out ⟨w9.heap.size, 0, none⟩ 1 1 [.int .i64 (xx * si), .int .i64 (yy * si)] rfl rfl (fun j u h => two_new w9 _ _ 47 j u h) (by simp [Value.oneCell']) (by unfold maxLen; omega) (by omega) HB3.out.size (by omega) ?_
              intro v' w4 hown' hgrow hwh
              have HB4 : Hid (Below w.heap.size w w4) := grown_below HB3.out (Nat.le_refl _) HO3.out hgrow
              have HO4 : Hid (w4.ownsRow w.heap.size 47 2 v' (m + 1) (ils (zf (hld z k si (m + 1))) ((m + 1) * 2))) := (by have e9 := zf_snoc (hld z k si m) (xx * si) (yy * si); rw [hld_len] at e9; rw [HM.out, e9]; exact hown')
              have HS4 : Hid (w4.ownsRow w.heap.size 47 2 (.slice (some ⟨g, 0, none⟩) Q upc) Q (ils z (Q * 2))) := own_grown (own_below HSR.out HB30.out) hgrow (apart_symm HAP.out)
              have HC4 : Hid (w4.cell? ⟨w.heap.size, 4, none⟩ = some (.int .i64 (k : Int)) ∧ w4.cell? ⟨w.heap.size, 5, none⟩ = some (.int .i64 si)) := ⟨(World.cell?_of_block (hgrow.block w.heap.size (Nat.lt_of_lt_of_le hbl HB30.out.size) HGB.out)).trans ((HB30.out.cell hbl).trans q4), (World.cell?_of_block (hgrow.block w.heap.size (Nat.lt_of_lt_of_le hbl HB30.out.size) HGB.out)).trans ((HB30.out.cell hbl).trans q5)⟩
              have I4 : w4.cell? ⟨g, i * 2, none⟩ = some (.int .i64 xx) ∧ w4.cell? ⟨g, i * 2 + 1, none⟩ = some (.int .i64 yy) ∧ w4.cell? ⟨w.heap.size, 5, none⟩ = some (.int .i64 si) := (by have e0 := own2_cell HS4.out (j := i * 2) (by omega); have e1 := own2_cell HS4.out (j := i * 2 + 1) (by omega); rw [HZZ.out.1] at e0; rw [HZZ.out.2] at e1; exact ⟨e0, e1, HC4.out.2⟩)
              have HA4 : Hid (Apart v' (.slice (some ⟨g, 0, none⟩) Q upc)) := apart_symm (apart_app (own_below HSR.out HB30.out) (apart_symm HAP.out) (hwh.imp id (fun x => x.1)))
              have HG4 : Hid (some w.heap.size ≠ v'.ownBlock) := hwh.elim (fun h9 => by show _ ≠ _; rw [h9]; exact HGB.out) (fun h9 => by show _ ≠ _; rw [h9.1]; intro h8; injection h8 with h8; have := HB30.out.size; omega)
              clear hown' hgrow hwh
              refine hK _ _ ?_
              clear hK K
              refine wpI_only (i := 20) rfl (by kernel_rfl) I4 (by rfl) ?_
              intro K hK
              go_simp
              try go_bits
              refine hK _ _ ?_
              refine wpI_done I4 (by kernel_rfl) ?_ _
              go_wp2
              go_roundw
              case rel => exact ⟨j + 1, by go_num, by omega, by rw [show (1 + i) * k + (j + 1) = m + 1 by rw [HMQ.out]; rfl]; exact HO4.out, HS4.out, HA4.out, HG4.out, HB4.out, HC4.out.1, HC4.out.2⟩
              case measure => simp [intOf]; omega
            · obtain rfl : j = k := by omega
              have HQ1 : Hid ((1 + i) * j + j = (1 + (i + 1)) * j) := by show _ = _; rw [show 1 + (i + 1) = (1 + i) + 1 by omega, Nat.add_mul (1 + i) 1 j, Nat.one_mul]
              have HRE : Hid _ := hrel.out
              clear hrel
              go_wp2
              go_roundw
              case rel => exact ⟨i + 1, by go_num, by omega, by rw [← HQ1.out]; exact HRE.out⟩
              case measure => simp [intOf]; omega
        · obtain rfl : i = Q := by omega
          have HRE : Hid _ := hrel.out
          clear hrel
          go_wp2
          go_ret2
          rw [HMM.out.1, HMM.out.2]
          exact ⟨_, rfl, HRE.out.1, HRE.out.2.2.2.2.1⟩
end Go.Proofs.Ytpjpkkgcnnmljaa
