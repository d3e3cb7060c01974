/- The law FnMended. -/
import Derived.Test.YtamcpmclnjngcaaRU
import Derived.Test.YtamcpmclnjngcaaRG
import Derived.Test.YtamcpmclnjngcaaGV
import Derived.RegionTactic
import Derived.Deep.RegionWith
import Derived.WalkMore
import Derived.BigQuiet
namespace Go.Proofs.Ytamcpmclnjngcaa
open Go.RowKit

theorem ei_ok {av : Int} (h0 : 0 ≤ av) : ∃ ei : Nat, (1 : Int) + av.tmod 255 = (ei : Int) ∧ 1 ≤ ei ∧ ei < 256 := by
  have : av.tmod 255 = av % 255 := Int.tmod_eq_emod_of_nonneg h0
  refine ⟨(1 + av.tmod 255).toNat, ?_, ?_, ?_⟩ <;> omega

theorem atv_ge {w : World} {a : Option Addr} {n : Nat} {zs : Nat → Int} (h : Rwz w a n zs) (i : Nat) : 0 ≤ atv zs n i ∧ atv zs n i < 256 := by
  unfold atv
  split
  · rename_i hi
    obtain ⟨_, _, _, _, _, h4, h5⟩ := h i hi
    exact ⟨h4, h5⟩
  · omega

/-- What hurts place i. -/
def hei (zs : Nat → Int) (n i : Nat) : Nat := (1 + (atv zs n (i + 3)).tmod 255).toNat % 256

set_option maxRecDepth 100000 in
set_option maxHeartbeats 16000000 in
theorem walk_in {w : World} {a : Option Addr} {len cap : Nat} (hr : Row w a len) (hl : len ≤ 1048576) :
    Calls Try.prog 3 #[.slice a len cap] w fun e w' => e = .returned (.bool true) ∧ Below w.heap.size w w' := by
  obtain ⟨i0, hi0, hz0, hz1, hz2⟩ := info_parts Try.info3
  have i1 := big_x (w := w) a len cap (by omega)
  have e1 : decide (1048576 < (len : Int)) = false := by simp; omega
  rw [e1] at i1
  have hd := dhurt_x (cap := cap) hr hl
  obtain ⟨zs, hzs⟩ := rwz_of hr
  have HZS : Hid (Rwz w a len zs) := hzs
  clear hr e1 hzs
  go_enter Try.func3, Try.ntmps3
  go_upto_region 4 with (first
    | (go_at_call 9; (with_reducible refine (i1).mono ?_); rintro e w' ⟨rfl, hw⟩; obtain rfl := hw.symm)
    | (go_at_call 10; (refine hd.mono ?_); rintro e w2 ⟨u, nd, t, m, xs, p, pl, rfl, hnd, ht, hmt, hy, hbl, hil, hlt, hinc, hb⟩; have DU : Hid (Bl w2 u nd xs) := hbl; have DY : Hid (Byt nd xs) := hy; have DP : Hid (Il w2 p m (fun k => ((pl k : Nat) : Int))) := hil; have HLT : Hid (∀ k, k < m → pl k < nd + 2 * t) := hlt; have HIN : Hid (∀ i k, i < k → k < m → pl i < pl k) := hinc; have B2 : Hid (Below w.heap.size w w2) := hb; clear hbl hy hil hlt hinc hb))
  clear i1 hd
  have hcod : Cod nd (t : Int) := ⟨by omega, hnd.1, by omega⟩
  obtain ⟨C, hC⟩ : ∃ C, C = cwd (2 * t) nd (nb nd xs) := ⟨_, rfl⟩
  have HCL : Hid (∀ q, C q < 256) := fun q => by rw [hC]; exact cwd_lt (nb_lt DY.out) q
  have HCC : Hid (∀ j, j < 2 * t → syn (nd + 2 * t) C j = 0) := fun j hj => by rw [hC]; exact cwd_clean (by omega) (nb_lt DY.out) hj
  have HCD : Hid (∀ k, k < nd → ((C k : Nat) : Int) = xs k) := fun k hk => by
    rw [hC]
    unfold cwd
    rw [if_pos hk, ← nb_at DY.out hk]
  have j1 := iCode_good DU.out DY.out hcod
  rw [← hC] at j1
  clear hC hcod
  have hbk : Bk ((nd + 2 * t : Nat) : Int) (t : Int) := ⟨by omega, by omega, by omega⟩
  obtain ⟨au, cu, hu, hcu, hcu2⟩ := DU.out
  subst hu
  obtain ⟨ap, cp, hp, hcp, hcp2⟩ := DP.out
  subst hp
  clear hcu2 hcp2
  go_upto_region 5 with (first
    | (go_at_call 11; (refine j1.mono ?_); rintro e w4 ⟨uw, rfl, ho4, hb4⟩; have O4 : Hid (w4.ownsRow w2.heap.size 5 1 uw (nd + 2 * t) (bls (fun q => ((C q : Nat) : Int)) (nd + 2 * t))) := ho4; have B4 : Hid (Below w.heap.size w w4) := bstep B2.out hb4; have DU4 : Hid (Bl w4 (.slice au nd cu) nd xs) := DU.out.below hb4; have DP4 : Hid (Il w4 (.slice ap m cp) m (fun k => ((pl k : Nat) : Int))) := DP.out.below hb4; clear ho4 hb4))
  clear j1 DU DP B2
  obtain ⟨gw, cw, huw, _, hgw⟩ := own_someb O4.out (by omega)
  subst huw
  have WB : Hid (Bl w4 (.slice (some ⟨gw, 0, none⟩) (nd + 2 * t) cw) (nd + 2 * t) (fun q => ((C q : Nat) : Int))) := bl_of_own O4.out
  have hcw : nd + 2 * t ≤ cw := by
    obtain ⟨_, c9, e9, h9, _⟩ := WB.out
    injection e9 with _ _ e10
    omega
  have WC : Hid (∀ k, k < nd + 2 * t → w4.cell? ⟨gw, k, none⟩ = some (.int .u8 ((C k : Nat) : Int))) := fun k hk => by
    have := O4.out.cellAt k (by omega)
    rw [bls_get hk] at this
    exact this
  have WD : Hid (∀ W, Below w4.heap.size w4 W → Bl W (.slice (some ⟨gw, 0, none⟩) nd cw) nd (fun q => ((C q : Nat) : Int))) := fun W hW => ⟨_, cw, rfl, by omega, fun _ => ⟨gw, 0, rfl, Nat.lt_of_lt_of_le hgw hW.size, fun k hk => by rw [Nat.zero_add]; exact (hW.cell (p := ⟨gw, k, none⟩) hgw).trans (WC.out k (by omega))⟩⟩
  have hbyt : Byt (nd + 2 * t) (fun q => ((C q : Nat) : Int)) := fun k _ => by have := HCL.out k; show 0 ≤ ((C k : Nat) : Int) ∧ ((C k : Nat) : Int) < 256; omega
  have iok := iOk_any (t := (t : Int)) WB.out hbyt (by omega)
  have hrk : rok (nd + 2 * t) (fun q => ((C q : Nat) : Int)) (t : Int) = true := by
    rw [rok, decide_eq_true hbk, Bool.true_and, Int.toNat_natCast, cln_congr (fun k hk => nb_nat HCL.out hk), cln_iff]
    exact HCC.out
  rw [hrk] at iok
  have hlenw : (((nd + 2 * t : Nat) : Int)) = (nd : Int) + 2 * (t : Int) := by omega
  clear O4 hrk hbyt
  go_upto_region 7 with (first
    | (go_at_call 12; (refine iok.mono ?_); rintro e w5 ⟨rfl, hb5⟩; have B5 : Hid (Below w4.heap.size w4 w5) := hb5; have isb := bsame_yes (WD.out w5 hb5) (DU4.out.below hb5) hnd.1 HCD.out; clear hb5)
    | (go_at_call 13; (refine isb.mono ?_); rintro e w' ⟨rfl, hw⟩; obtain rfl := hw.symm))
  clear isb iok WD DU4
  have W5 : Hid (Bl w5 (.slice (some ⟨gw, 0, none⟩) (nd + 2 * t) cw) (nd + 2 * t) (fun q => ((C q : Nat) : Int))) := WB.out.below B5.out
  have DP5 : Hid (Il w5 (.slice ap m cp) m (fun k => ((pl k : Nat) : Int))) := DP4.out.below B5.out
  have LW5 : Hid (Below w.heap.size w w5) := bstep B4.out B5.out
  have hgw5 : gw < w5.heap.size := Nat.lt_of_lt_of_le hgw B5.out.size
  have WC5 : Hid (∀ k, k < nd + 2 * t → w5.cell? ⟨gw, k, none⟩ = some (.int .u8 ((C k : Nat) : Int))) := fun k hk => (B5.out.cell (p := ⟨gw, k, none⟩) hgw).trans (WC.out k hk)
  have OE : Hid ((w5.alloc (.cells #[] 5)).ownsRow w5.heap.size 5 1 (.slice (some ⟨w5.heap.size, 0, none⟩) 0 0) 0 (bls (fun q => ((C q : Nat) : Int)) 0)) := own_empty w5 5 1
  have SR : Hid (Bl (w5.alloc (.cells #[] 5)) (.slice (some ⟨gw, 0, none⟩) (nd + 2 * t) cw) (nd + 2 * t) (fun q => ((C q : Nat) : Int))) := W5.out.below (below_one _ _)
  have BE : Hid (Below w5.heap.size w5 (w5.alloc (.cells #[] 5))) := below_one _ _
  clear WB WC DP4 B4 B5
  go_upto_region 8 with (first
    | (at_builtin; refine wpList_appb rfl _ _ rfl w5.heap.size _ _ 0 (nd + 2 * t) _ _ rfl rfl OE.out SR.out (by omega) BE.out.size ?_; intro v8 w6 hown hgrow; have O6 : Hid (w6.ownsRow w5.heap.size 5 1 v8 (nd + 2 * t) (bls (fun q => ((C q : Nat) : Int)) (nd + 2 * t))) := (by have h := hown; rw [Nat.zero_add] at h; exact h); have B6 : Hid (Below w5.heap.size w5 w6) := grown_below BE.out (Nat.le_refl _) OE.out hgrow; clear hown hgrow))
  clear OE SR BE
  obtain ⟨gb, cb, hv8, hgb, _⟩ := own_someb O6.out (by omega)
  subst hv8
  obtain ⟨E, hE⟩ : ∃ E, E = hei zs len := ⟨_, rfl⟩
  have HEL : Hid (∀ i, E i < 256) := fun i => by rw [hE]; unfold hei; omega
  have HEA : Hid (∀ i ei : Nat, (1 : Int) + (atv zs len (i + 3)).tmod 255 = (ei : Int) → ei < 256 → E i = ei) := fun i ei h1 h2 => by rw [hE]; unfold hei; rw [h1]; simp; omega
  clear hE
  go_wp2
  go_loopw [9] (fun iv wr => ∃ i : Nat, iv = .int .i64 (i : Int) ∧ i ≤ m ∧ Hid (wr.ownsRow w5.heap.size 5 1 (.slice (some ⟨gb, 0, none⟩) (nd + 2 * t) cb) (nd + 2 * t) (bls (fun q => ((hrt C pl E i q : Nat) : Int)) (nd + 2 * t)) ∧ Below w5.heap.size w5 wr ∧ (∀ k, k < i → E k ≠ 0))) (fun iv _ => m - (intOf iv).toNat)
  case atStart => exact ⟨0, rfl, by omega, O6.out, B6.out, fun k hk => absurd hk (by omega)⟩
  case round =>
    obtain ⟨i, rfl, hi, HI⟩ := hrel
    clear O6 B6
    by_cases h1 : i < m
    · obtain ⟨bp, op, hap, hbp, hcp3⟩ := (by
        obtain ⟨_, _, e9, _, h9⟩ := DP5.out
        injection e9 with e10 _ _
        subst e10
        exact h9 (by omega) : ∃ b off, ap = some ⟨b, off, none⟩ ∧ b < w5.heap.size ∧ ∀ k, k < m → w5.cell? ⟨b, off + k, none⟩ = some (.int .i64 ((pl k : Nat) : Int)))
      subst hap
      have hqN := HLT.out i h1
      have cP := (HI.out.2.1.cell (p := ⟨bp, op + i, none⟩) hbp).trans (hcp3 i h1)
      have cT := HI.out.1.cellAt (pl i) (by omega)
      rw [bls_get hqN] at cT
      have zT := HI.out.1.frozenAt (pl i)
      have hal := atv_ge HZS.out (i + 3)
      obtain ⟨ei, he1, he2, he3⟩ := ei_ok hal.1
      have HEI := HEA.out i ei he1 he3
      have iat := at_v (cap := cap) (i := i + 3) (HZS.out.below (bstep LW5.out HI.out.2.1.drew)) hl (by omega)
      have hx := xor_u8 (hrt_lt (pl := pl) HCL.out HEL.out i (pl i)) he3
      obtain ⟨q, hq⟩ : ∃ q, q = pl i := ⟨_, rfl⟩
      obtain ⟨y1, hy1⟩ : ∃ y1, y1 = hrt C pl E i (pl i) ^^^ ei := ⟨_, rfl⟩
      obtain ⟨y0, hy0⟩ : ∃ y0, y0 = hrt C pl E i (pl i) := ⟨_, rfl⟩
      rw [← hy1, ← hy0] at hx
      rw [← hy0] at cT
      have hst := ((own_below HI.out.1 (Below.refl _ _).drew).stored q (.int .u8 ((y1 : Nat) : Int))).1
      rw [bls_put] at hst
      have e9 := bls_congr (n := nd + 2 * t) (f := fun k => if k = q then ((y1 : Nat) : Int) else ((hrt C pl E i k : Nat) : Int)) (g := fun k => ((hrt C pl E (i + 1) k : Nat) : Int)) (fun k _ => by
        show (if k = q then ((y1 : Nat) : Int) else ((hrt C pl E i k : Nat) : Int)) = (((if k = pl i then hrt C pl E i k ^^^ E i else hrt C pl E i k) : Nat) : Int)
        by_cases e : k = pl i
        · rw [if_pos (by rw [hq]; exact e), if_pos e, e, HEI, hy1]
        · rw [if_neg (by rw [hq]; exact e), if_neg e])
      rw [e9] at hst
      rw [← hq] at cP cT zT hqN
      have hE0 : ∀ k, k < i + 1 → E k ≠ 0 := fun k hk => by
        by_cases e : k = i
        · rw [e, HEI]; omega
        · exact HI.out.2.2 k (by omega)
      have HN1 : Hid ((wr.drew.setCell ⟨gb, q, none⟩ (.int .u8 ((y1 : Nat) : Int))).ownsRow w5.heap.size 5 1 (.slice (some ⟨gb, 0, none⟩) (nd + 2 * t) cb) (nd + 2 * t) (bls (fun k => ((hrt C pl E (i + 1) k : Nat) : Int)) (nd + 2 * t)) ∧ Below w5.heap.size w5 (wr.drew.setCell ⟨gb, q, none⟩ (.int .u8 ((y1 : Nat) : Int))) ∧ (∀ k, k < i + 1 → E k ≠ 0)) := ⟨hst, HI.out.2.1.drew.setCell (p := ⟨gb, q, none⟩) hgb _, hE0⟩
      have HXR : Hid (bits .xor .u8 ((y0 : Nat) : Int) ((ei : Nat) : Int) = ((y1 : Nat) : Int)) := hx
      have hng : bp ≠ gb := by omega
      obtain ⟨i3, hi3⟩ : ∃ i3 : Nat, i3 = i + 3 := ⟨_, rfl⟩
      rw [← hi3] at iat he1 hal
      have hi4 : (i : Int) + 3 = (i3 : Int) := by omega
      have hcv : IntKind.u8.wrap ((ei : Nat) : Int) = ((ei : Nat) : Int) := by rw [IntKind.wrap_u8]; omega
      generalize atv zs len i3 = av at *
      have he4 : (1 : Int) + av % 255 = (ei : Int) := by have := Int.tmod_eq_emod_of_nonneg (b := 255) hal.1; omega
      obtain ⟨W0, hW0⟩ : ∃ W0, W0 = wr.drew := ⟨_, rfl⟩
      rw [← hW0] at iat HN1
      have cT2 : W0.cell? ⟨gb, q, none⟩ = some (.int .u8 ((y0 : Nat) : Int)) := by rw [hW0]; exact cT
      have zT2 : W0.frozen? ⟨gb, q, none⟩ = false := by rw [hW0]; exact zT
      have cP2 : W0.cell? ⟨bp, op + i, none⟩ = some (.int .i64 ((q : Nat) : Int)) := by rw [hW0]; exact cP
      obtain ⟨W1, hW1⟩ : ∃ W1, W1 = W0.setCell ⟨gb, q, none⟩ (.int .u8 ((y1 : Nat) : Int)) := ⟨_, rfl⟩
      rw [← hW1] at HN1
      have raP : ∀ X, (X = W0 ∨ X = W1) → X.cell? ⟨bp, op + i, none⟩ = some (.int .i64 ((q : Nat) : Int)) := fun X hX => by
        rcases hX with rfl | rfl
        · exact cP2
        · rw [hW1, World.cell?_setCell_other _ _ _ _ (fun e => hng (by injection e with e1 _ _; exact e1.symm))]; exact cP2
      have HW1 : Hid (W1 = W0.setCell ⟨gb, q, none⟩ (.int .u8 ((y1 : Nat) : Int))) := hW1
      have hqc : q < nd + 2 * t := hqN
      clear hst hx cT zT cP HI hi3 hy1 hy0 hq hng hW1 e9 hE0 HEI cP2 hcp3 he2
      go_upto_region 11 with fail
      refine wp_region_any (by kernel_rfl) ?_
      change wpAny _ _ _ _ _ _ _ (World.drew _)
      rw [← hW0]
      clear hW0
      refine wpI_any (I := fun X => X = W0 ∨ X = W1) _ _ _ _ ?_
      refine wpI_take (i := 0) (v := ?_) rfl (by kernel_rfl) (by kernel_rfl) (by kernel_rfl) (fun _ _ _ h => h) ⟨by rfl, ?_⟩ ?_
      rotate_left
      · intro X hI; go_simp; try go_bits
        try rw [if_pos (by omega)]
        try with_reducible rfl
      refine wpI_take (i := 1) (v := ?_) rfl (by kernel_rfl) (by kernel_rfl) (by kernel_rfl) (fun _ _ _ h => h) ⟨by rfl, ?_⟩ ?_
      rotate_left
      · intro X hI; go_simp; try go_bits
        try rw [if_pos (by omega)]
        try with_reducible rfl
      refine wpI_take (i := 2) (v := ?_) rfl (by kernel_rfl) (by kernel_rfl) (by kernel_rfl) (fun _ _ _ h => h) ⟨by rfl, ?_⟩ ?_
      rotate_left
      · intro X hI; go_simp; try go_bits
        try rw [if_pos (by omega)]
        try with_reducible rfl
      refine wpI_take (i := 3) (v := ?_) rfl (by kernel_rfl) (by kernel_rfl) (by kernel_rfl) (fun _ _ _ h => h) ⟨by rfl, ?_⟩ ?_
      rotate_left
      · intro X hI; go_simp; try go_bits
        try rw [if_pos (by omega)]
        try with_reducible rfl
      refine wpI_take (i := 4) (v := ?_) rfl (by kernel_rfl) (by kernel_rfl) (by kernel_rfl) (fun _ _ _ h => h) ⟨by rfl, ?_⟩ ?_
      rotate_left
      · intro X hI; have q1 := raP X hI; go_simp; try go_bits
        try rw [if_pos (by omega)]
        try with_reducible rfl
      refine wpI_take (i := 5) (v := ?_) rfl (by kernel_rfl) (by kernel_rfl) (by kernel_rfl) (fun _ _ _ h => h) ⟨by rfl, ?_⟩ ?_
      rotate_left
      · intro X hI; go_simp; try go_bits
        try rw [if_pos (by omega)]
        try with_reducible rfl
      refine wpI_take (i := 6) (v := ?_) rfl (by kernel_rfl) (by kernel_rfl) (by kernel_rfl) (fun _ _ _ h => h) ⟨by rfl, ?_⟩ ?_
      rotate_left
      · intro X hI; go_simp; try go_bits
        try rw [if_pos (by omega)]
        try with_reducible rfl
      refine wpI_take (i := 7) (v := ?_) rfl (by kernel_rfl) (by kernel_rfl) (by kernel_rfl) (fun _ _ _ h => h) ⟨by rfl, ?_⟩ ?_
      rotate_left
      · intro X hI; go_simp; try go_bits
        try rw [if_pos (by omega)]
        try with_reducible rfl
      refine wpI_take (i := 8) (v := ?_) rfl (by kernel_rfl) (by kernel_rfl) (by kernel_rfl) (fun _ _ _ h => h) ⟨by rfl, ?_⟩ ?_
      rotate_left
      · intro X hI; go_simp; try go_bits
        try rw [if_pos (by omega)]
        try with_reducible rfl
      refine wpI_take (i := 9) (v := ?_) rfl (by kernel_rfl) (by kernel_rfl) (by kernel_rfl) (fun _ _ _ h => h) ⟨by rfl, ?_⟩ ?_
      rotate_left
      · intro X hI; have q1 := raP X hI; go_simp; try go_bits
        try rw [if_pos (by omega)]
        try with_reducible rfl
      refine wpI_take (i := 10) (v := ?_) rfl (by kernel_rfl) (by kernel_rfl) (by kernel_rfl) (fun _ _ _ h => h) ⟨by rfl, ?_⟩ ?_
      rotate_left
      · intro X hI; go_simp; try go_bits
        try rw [if_pos (by omega)]
        try with_reducible rfl
      refine wpI_take (i := 12) (v := ?_) rfl (by kernel_rfl) (by kernel_rfl) (by kernel_rfl) (fun _ _ _ h => h) ⟨by rfl, ?_⟩ ?_
      rotate_left
      · intro X hI; go_simp; try go_bits
        try rw [if_pos (by omega)]
        try with_reducible rfl
      refine wpI_take (i := 13) (v := ?_) rfl (by kernel_rfl) (by kernel_rfl) (by kernel_rfl) (fun _ _ _ h => h) ⟨by rfl, ?_⟩ ?_
      rotate_left
      · intro X hI; go_simp; try go_bits
        try rw [if_pos (by omega)]
        try with_reducible rfl
      refine wpI_take (i := 14) (v := ?_) rfl (by kernel_rfl) (by kernel_rfl) (by kernel_rfl) (fun _ _ _ h => h) ⟨by rfl, ?_⟩ ?_
      rotate_left
      · intro X hI; go_simp; try go_bits
        try rw [if_pos (by omega)]
        try with_reducible rfl
      refine wpI_two (i := 11) (j := 15) rfl rfl (by kernel_rfl) (.inl rfl) (by rfl) (by rfl) ?_ ?_
      · intro K hK
        go_simp
        refine hK _ _ ?_
        refine wpI_only (i := 15) rfl (by kernel_rfl) (.inl rfl) (by rfl) ?_
        intro K hK
        go_simp
        go_wp2_with (go_at_call 14; (with_reducible refine iat.mono ?_); rintro e w' ⟨rfl, hw⟩; obtain rfl := hw.symm)
        refine wpI_take (i := 16) (v := ?_) rfl (by kernel_rfl) (by kernel_rfl) (by kernel_rfl) (fun _ _ _ h => h) ⟨by rfl, ?_⟩ ?_
        rotate_left
        · intro X hI; go_simp; try go_bits
          try rw [if_pos (by omega)]
          try with_reducible rfl
        refine wpI_take (i := 17) (v := ?_) rfl (by kernel_rfl) (by kernel_rfl) (by kernel_rfl) (fun _ _ _ h => h) ⟨by rfl, ?_⟩ ?_
        rotate_left
        · intro X hI; go_simp; try go_bits
          try rw [if_pos (by omega)]
          try with_reducible rfl
        refine wpI_take (i := 18) (v := .int .u8 ((ei : Nat) : Int)) rfl (by kernel_rfl) (by kernel_rfl) (by kernel_rfl) (fun _ _ _ h => h) ⟨by rfl, ?_⟩ ?_
        · intro X hI; have hxx := hcv; go_simp; try go_bits
          try rw [if_pos (by omega)]
          try trivial
        refine wpI_take (i := 19) (v := .int .u8 ((y1 : Nat) : Int)) rfl (by kernel_rfl) (by kernel_rfl) (by kernel_rfl) (fun _ _ _ h => h) ⟨by rfl, ?_⟩ ?_
        · intro X hI; have hxx := HXR.out; go_simp; try go_bits
          try rw [if_pos (by omega)]
          try trivial
        refine wpI_take (i := 20) (v := ?_) rfl (by kernel_rfl) (by kernel_rfl) (by kernel_rfl) (fun _ _ _ h => h) ⟨by rfl, ?_⟩ ?_
        rotate_left
        · intro X hI; go_simp; try go_bits
          try rw [if_pos (by omega)]
          try with_reducible rfl
        refine wpI_only (i := 21) rfl (by kernel_rfl) (.inl rfl) (by rfl) ?_
        intro K hK
        go_simp
        refine hK _ _ ?_
        rw [← HW1.out]
        refine wpI_done (.inr rfl) (by kernel_rfl) ?_ _
        go_wp2
        go_roundw
        case rel => exact ⟨i + 1, by go_num, by omega, HN1.out⟩
        case measure => simp [intOf]; omega
      · intro K hK
        go_simp
        go_wp2_with (go_at_call 14; (with_reducible refine iat.mono ?_); rintro e w' ⟨rfl, hw⟩; obtain rfl := hw.symm)
        refine wpI_take (i := 16) (v := ?_) rfl (by kernel_rfl) (by kernel_rfl) (by kernel_rfl) (fun _ _ _ h => h) ⟨by rfl, ?_⟩ ?_
        rotate_left
        · intro X hI; go_simp; try go_bits
          try rw [if_pos (by omega)]
          try with_reducible rfl
        refine wpI_take (i := 17) (v := ?_) rfl (by kernel_rfl) (by kernel_rfl) (by kernel_rfl) (fun _ _ _ h => h) ⟨by rfl, ?_⟩ ?_
        rotate_left
        · intro X hI; go_simp; try go_bits
          try rw [if_pos (by omega)]
          try with_reducible rfl
        refine wpI_take (i := 18) (v := .int .u8 ((ei : Nat) : Int)) rfl (by kernel_rfl) (by kernel_rfl) (by kernel_rfl) (fun _ _ _ h => h) ⟨by rfl, ?_⟩ ?_
        · intro X hI; have hxx := hcv; go_simp; try go_bits
          try rw [if_pos (by omega)]
          try trivial
        refine wpI_only (i := 11) rfl (by kernel_rfl) (.inl rfl) (by rfl) ?_
        intro K hK
        go_simp
        refine hK _ _ ?_
        refine wpI_take (i := 19) (v := .int .u8 ((y1 : Nat) : Int)) rfl (by kernel_rfl) (by kernel_rfl) (by kernel_rfl) (fun _ _ _ h => h) ⟨by rfl, ?_⟩ ?_
        · intro X hI; have hxx := HXR.out; go_simp; try go_bits
          try rw [if_pos (by omega)]
          try trivial
        refine wpI_take (i := 20) (v := ?_) rfl (by kernel_rfl) (by kernel_rfl) (by kernel_rfl) (fun _ _ _ h => h) ⟨by rfl, ?_⟩ ?_
        rotate_left
        · intro X hI; go_simp; try go_bits
          try rw [if_pos (by omega)]
          try with_reducible rfl
        refine wpI_only (i := 21) rfl (by kernel_rfl) (.inl rfl) (by rfl) ?_
        intro K hK
        go_simp
        refine hK _ _ ?_
        rw [← HW1.out]
        refine wpI_done (.inr rfl) (by kernel_rfl) ?_ _
        go_wp2
        go_roundw
        case rel => exact ⟨i + 1, by go_num, by omega, HN1.out⟩
        case measure => simp [intOf]; omega
    · obtain rfl : i = m := by omega
      have hpls : Pls (nd + 2 * t) i pl := ⟨by omega, HLT.out, fun a b ha hb e => by
        rcases Nat.lt_trichotomy a b with h5 | h5 | h5
        · have := HIN.out a b h5 hb; omega
        · exact h5
        · have := HIN.out b a h5 ha; omega⟩
      have j2 := mend_told (G := hrt C pl E i) (C := C) (pl := pl) (m := i) (t := t) (bl_of_own HI.out.1) (hrt_lt HCL.out HEL.out i) HCL.out hpls hbk hmt (fun q _ hk => (hrt_out i hk).symm) HCC.out (fun k hk => by rw [hrt_in i hk HIN.out]; exact xor_keep (HI.out.2.2 k hk)) HIN.out
      have OB : Hid (wr.ownsRow w5.heap.size 5 1 (.slice (some ⟨gb, 0, none⟩) (nd + 2 * t) cb) (nd + 2 * t) (bls (fun q => ((hrt C pl E i q : Nat) : Int)) (nd + 2 * t))) := HI.out.1
      have LB : Hid (Below w5.heap.size w5 wr) := HI.out.2.1
      clear HI hpls
      obtain ⟨W7, rfl⟩ : ∃ W7, W7 = wr := ⟨_, rfl⟩
      go_upto_region 13 with (first
        | (go_at_call 15; (refine j2.mono ?_); rintro e w8 ⟨u8b, rfl, ho8, hb8⟩; have O8 : Hid (Bl w8 u8b (nd + 2 * t) (fun q => ((C q : Nat) : Int))) := bl_of_own ho8; have OB8 : Hid (w8.ownsRow w5.heap.size 5 1 (.slice (some ⟨gb, 0, none⟩) (nd + 2 * t) cb) (nd + 2 * t) (bls (fun q => ((hrt C pl E i q : Nat) : Int)) (nd + 2 * t))) := own_below OB.out hb8; have LB8 : Hid (Below w5.heap.size w5 w8) := bstep LB.out hb8; clear ho8 hb8))
      clear j2 OB LB
      have is2 := bsame_yes O8.out (W5.out.below LB8.out) (by omega) (fun _ _ => rfl)
      go_upto_region 15 with (first
        | (go_at_call 13; (refine is2.mono ?_); rintro e w' ⟨rfl, hw⟩; obtain rfl := hw.symm))
      clear is2 O8
      have P9 : Hid ((w8.alloc (.cells #[] 3)).ownsRow w8.heap.size 3 1 (.slice (some ⟨w8.heap.size, 0, none⟩) 0 0) 0 (ils (fun k => ((k : Nat) : Int)) 0)) := own_empty w8 3 1
      have OB9 : Hid ((w8.alloc (.cells #[] 3)).ownsRow w5.heap.size 5 1 (.slice (some ⟨gb, 0, none⟩) (nd + 2 * t) cb) (nd + 2 * t) (bls (fun q => ((hrt C pl E i q : Nat) : Int)) (nd + 2 * t))) := own_below OB8.out (below_one _ _)
      have LB9 : Hid (Below w5.heap.size w5 (w8.alloc (.cells #[] 3))) := bstep LB8.out (below_one _ _)
      have hgb8 : gb < w8.heap.size := (World.ownsRow.lt OB8.out gb rfl).2
      have S9 : Hid (w8.heap.size ≤ (w8.alloc (.cells #[] 3)).heap.size) := (below_one w8 (.cells #[] 3)).size
      go_upto_region 16 with fail
      generalize (Value.slice (some ⟨w8.heap.size, 0, none⟩) 0 0) = p9 at *
      generalize w8.alloc (.cells #[] 3) = W9 at *
      have HF0 : Hid (∀ q, hrt C pl E i q < 256) := hrt_lt HCL.out HEL.out i
      clear OB8 LB8
      go_wp2
      go_loopw [13, 14] (fun pv iv wr => ∃ (k : Nat) (F : Nat → Nat), iv = .int .i64 (k : Int) ∧ k ≤ 2 * t ∧ Hid ((∀ q, F q < 256) ∧ wr.ownsRow w8.heap.size 3 1 pv k (ils (fun k => ((k : Nat) : Int)) k) ∧ wr.ownsRow w5.heap.size 5 1 (.slice (some ⟨gb, 0, none⟩) (nd + 2 * t) cb) (nd + 2 * t) (bls (fun q => ((F q : Nat) : Int)) (nd + 2 * t)) ∧ Below w5.heap.size w5 wr ∧ w8.heap.size ≤ wr.heap.size)) (fun _ iv _ => 2 * t - (intOf iv).toNat)
      case atStart => exact ⟨0, _, rfl, by omega, HF0.out, P9.out, OB9.out, LB9.out, S9.out⟩
      case round =>
        obtain ⟨k, F, rfl, hk, HJ⟩ := hrel
        clear P9 OB9 LB9 HF0 S9
        by_cases h2 : k < 2 * t
        · have bx := below_one wr (.cells #[.int .i64 (k : Int)] 3)
          have HFL : Hid (∀ q, F q < 256) := HJ.out.1
          have PA : Hid ((wr.alloc (.cells #[.int .i64 (k : Int)] 3)).ownsRow w8.heap.size 3 1 u13 k (ils (fun k => ((k : Nat) : Int)) k)) := own_below HJ.out.2.1 bx
          have OA : Hid ((wr.alloc (.cells #[.int .i64 (k : Int)] 3)).ownsRow w5.heap.size 5 1 (.slice (some ⟨gb, 0, none⟩) (nd + 2 * t) cb) (nd + 2 * t) (bls (fun q => ((F q : Nat) : Int)) (nd + 2 * t))) := own_below HJ.out.2.2.1 bx
          have LA : Hid (Below w5.heap.size w5 (wr.alloc (.cells #[.int .i64 (k : Int)] 3))) := bstep HJ.out.2.2.2.1 bx
          have ZA : Hid (w8.heap.size ≤ (wr.alloc (.cells #[.int .i64 (k : Int)] 3)).heap.size) := Nat.le_trans HJ.out.2.2.2.2 bx.size
          have hkN : k < nd + 2 * t := by omega
          clear bx HJ
          go_upto_region 20 with (first
            | (at_builtin; refine wpList_app _ rfl _ _ 24 rfl w8.heap.size 3 i0 (.int .i64 0) 1 8 Try.underlying24 hi0 hz0 hz1 hz2 rfl (by decide) _ _ _ rfl PA.out ⟨wr.heap.size, 0, none⟩ 1 1 [.int .i64 (k : Int)] rfl rfl (one_new _ _ _) (by simp [Value.oneCell']) (by unfold maxLen; omega) (by omega) ZA.out (by decide) ?_; intro v9 w9 hown hgrow _; have PB : Hid (w9.ownsRow w8.heap.size 3 1 v9 (k + 1) (ils (fun k => ((k : Nat) : Int)) (k + 1))) := (by have h := hown; rw [← ils_snoc] at h; exact h); have OB : Hid (w9.ownsRow w5.heap.size 5 1 (.slice (some ⟨gb, 0, none⟩) (nd + 2 * t) cb) (nd + 2 * t) (bls (fun q => ((F q : Nat) : Int)) (nd + 2 * t))) := own_grown OA.out hgrow (ty_ap OA.out PA.out (by decide)); have BG : Below w8.heap.size (wr.alloc (.cells #[.int .i64 (k : Int)] 3)) w9 := grown_below (Below.refl _ _) ZA.out PA.out hgrow; have LB : Hid (Below w5.heap.size w5 w9) := LA.out.trans (BG.mono (Nat.le_of_lt (Nat.lt_of_le_of_lt hgb hgb8))); have ZB : Hid (w8.heap.size ≤ w9.heap.size) := Nat.le_trans ZA.out BG.size; clear hown hgrow BG))
          clear PA OA LA ZA
          have hal := atv_ge HZS.out k
          have iat := at_v (cap := cap) (i := k) (HZS.out.below (bstep LW5.out LB.out)) hl (by omega)
          obtain ⟨av, hav⟩ : ∃ av : Nat, atv zs len k = (av : Int) := ⟨(atv zs len k).toNat, by omega⟩
          rw [hav] at iat hal
          have hcv : IntKind.u8.wrap ((av : Nat) : Int) = ((av : Nat) : Int) := by rw [IntKind.wrap_u8]; omega
          have cT := OB.out.cellAt k (by omega)
          rw [bls_get hkN] at cT
          have zT := OB.out.frozenAt k
          have hst := (OB.out.stored k (.int .u8 ((av : Nat) : Int))).1
          rw [bls_put] at hst
          have e9 := bls_congr (n := nd + 2 * t) (f := fun q => if q = k then ((av : Nat) : Int) else ((F q : Nat) : Int)) (g := fun q => (((if q = k then av else F q) : Nat) : Int)) (fun q _ => by
            show (if q = k then ((av : Nat) : Int) else ((F q : Nat) : Int)) = (((if q = k then av else F q) : Nat) : Int)
            split <;> rfl)
          rw [e9] at hst
          have O10 : Hid ((w9.setCell ⟨gb, k, none⟩ (.int .u8 ((av : Nat) : Int))).ownsRow w5.heap.size 5 1 (.slice (some ⟨gb, 0, none⟩) (nd + 2 * t) cb) (nd + 2 * t) (bls (fun q => (((if q = k then av else F q) : Nat) : Int)) (nd + 2 * t))) := hst
          have P10 : Hid ((w9.setCell ⟨gb, k, none⟩ (.int .u8 ((av : Nat) : Int))).ownsRow w8.heap.size 3 1 v9 (k + 1) (ils (fun k => ((k : Nat) : Int)) (k + 1))) := own_set PB.out (fun b hb => by have := (World.ownsRow.lt PB.out b hb).1; omega)
          have L10 : Hid (Below w5.heap.size w5 (w9.setCell ⟨gb, k, none⟩ (.int .u8 ((av : Nat) : Int)))) := LB.out.setCell (p := ⟨gb, k, none⟩) hgb _
          have Z10 : Hid (w8.heap.size ≤ (w9.setCell ⟨gb, k, none⟩ (.int .u8 ((av : Nat) : Int))).heap.size) := by show _ ≤ _; simpa using ZB.out
          have F10 : Hid (∀ q, (if q = k then av else F q) < 256) := fun q => by split; omega; exact HFL.out q
          clear hst e9 hav PB OB LB ZB
          go_wp2_with (first | (go_at_call 14; (with_reducible refine (iat).mono ?_); rintro e w' ⟨rfl, hw⟩; obtain rfl := hw.symm))
          go_roundw
          case rel => exact ⟨k + 1, _, by go_num, by omega, F10.out, P10.out, O10.out, L10.out, Z10.out⟩
          case measure => simp [intOf]; omega
        · obtain rfl : k = 2 * t := by omega
          have PG : Hid (wr.ownsRow w8.heap.size 3 1 u13 (2 * t) (ils (fun k => ((k : Nat) : Int)) (2 * t))) := HJ.out.2.1
          have OB : Hid (wr.ownsRow w5.heap.size 5 1 (.slice (some ⟨gb, 0, none⟩) (nd + 2 * t) cb) (nd + 2 * t) (bls (fun q => ((F q : Nat) : Int)) (nd + 2 * t))) := HJ.out.2.2.1
          have LB : Hid (Below w5.heap.size w5 wr) := HJ.out.2.2.2.1
          have HF0 : Hid (∀ q, F q < 256) := HJ.out.1
          clear HJ
          have h2t : ((2 * t : Nat) : Int) = 2 * (t : Int) := by omega
          go_upto_region 22 with fail
          go_loopw [15] (fun iv wr => ∃ (k : Nat) (F : Nat → Nat), iv = .int .i64 (k : Int) ∧ 2 * t ≤ k ∧ k ≤ nd + 2 * t ∧ Hid ((∀ q, F q < 256) ∧ (∀ q, 2 * t ≤ q → q < k → F q = C q) ∧ wr.ownsRow w8.heap.size 3 1 u13 (2 * t) (ils (fun k => ((k : Nat) : Int)) (2 * t)) ∧ wr.ownsRow w5.heap.size 5 1 (.slice (some ⟨gb, 0, none⟩) (nd + 2 * t) cb) (nd + 2 * t) (bls (fun q => ((F q : Nat) : Int)) (nd + 2 * t)) ∧ Below w5.heap.size w5 wr)) (fun iv _ => nd + 2 * t - (intOf iv).toNat)
          case atStart => exact ⟨2 * t, F, by first | rfl | (rw [h2t]) | go_num, by omega, by omega, HF0.out, fun q h1 h2 => absurd h1 (by omega), PG.out, OB.out, LB.out⟩
          case round =>
            obtain ⟨k, F, rfl, hk1, hk2, HJ⟩ := hrel
            clear PG OB LB HF0
            by_cases h2 : k < nd + 2 * t
            · have cW := (HJ.out.2.2.2.2.cell (p := ⟨gw, k, none⟩) hgw5).trans (WC5.out k h2)
              have cT := HJ.out.2.2.2.1.cellAt k (by omega)
              rw [bls_get h2] at cT
              have zT := HJ.out.2.2.2.1.frozenAt k
              have hst := (HJ.out.2.2.2.1.stored k (.int .u8 ((C k : Nat) : Int))).1
              rw [bls_put] at hst
              have e9 := bls_congr (n := nd + 2 * t) (f := fun q => if q = k then ((C k : Nat) : Int) else ((F q : Nat) : Int)) (g := fun q => (((if q = k then C k else F q) : Nat) : Int)) (fun q _ => by
                show (if q = k then ((C k : Nat) : Int) else ((F q : Nat) : Int)) = (((if q = k then C k else F q) : Nat) : Int)
                split <;> rfl)
              rw [e9] at hst
              have O10 : Hid ((wr.setCell ⟨gb, k, none⟩ (.int .u8 ((C k : Nat) : Int))).ownsRow w5.heap.size 5 1 (.slice (some ⟨gb, 0, none⟩) (nd + 2 * t) cb) (nd + 2 * t) (bls (fun q => (((if q = k then C k else F q) : Nat) : Int)) (nd + 2 * t))) := hst
              have P10 : Hid ((wr.setCell ⟨gb, k, none⟩ (.int .u8 ((C k : Nat) : Int))).ownsRow w8.heap.size 3 1 u13 (2 * t) (ils (fun k => ((k : Nat) : Int)) (2 * t))) := own_set HJ.out.2.2.1 (fun b hb => by have := (World.ownsRow.lt HJ.out.2.2.1 b hb).1; omega)
              have L10 : Hid (Below w5.heap.size w5 (wr.setCell ⟨gb, k, none⟩ (.int .u8 ((C k : Nat) : Int)))) := HJ.out.2.2.2.2.setCell (p := ⟨gb, k, none⟩) hgb _
              have F10 : Hid (∀ q, (if q = k then C k else F q) < 256) := fun q => by
                by_cases e : q = k
                · rw [if_pos e]; exact HCL.out k
                · rw [if_neg e]; exact HJ.out.1 q
              have G10 : Hid (∀ q, 2 * t ≤ q → q < k + 1 → (if q = k then C k else F q) = C q) := fun q h5 h6 => by
                by_cases e : q = k
                · rw [if_pos e, e]
                · rw [if_neg e]; exact HJ.out.2.1 q h5 (by omega)
              clear hst e9 HJ
              generalize C k = ck at *
              go_wp2
              go_roundw
              case rel => exact ⟨k + 1, _, by go_num, by omega, by omega, F10.out, G10.out, P10.out, O10.out, L10.out⟩
              case measure => simp [intOf]; omega
            · obtain rfl : k = nd + 2 * t := by omega
              have j3 := fill_told (G := F) (C := C) (pl := fun k => k) (m := 2 * t) (t := t) (bl_of_own HJ.out.2.2.2.1) HJ.out.1 HCL.out (il_of_own HJ.out.2.2.1) ⟨by omega, fun k hk => by show k < _; omega, fun _ _ _ _ e => e⟩ hbk (Nat.le_refl _) (fun q hq hk => (HJ.out.2.1 q (by
                rcases Nat.lt_or_ge q (2 * t) with h5 | h5
                · exact absurd rfl (hk q h5)
                · exact h5) hq).symm) HCC.out (fun i k hik _ => hik)
              have LB : Hid (Below w5.heap.size w5 wr) := HJ.out.2.2.2.2
              clear HJ
              go_upto_region 26 with (first
                | (go_at_call 16; (refine j3.mono ?_); rintro e w12 ⟨u12, rfl, ho12, hb12⟩; have O12 : Hid (Bl w12 u12 (nd + 2 * t) (fun q => ((C q : Nat) : Int))) := bl_of_own ho12; have L12 : Hid (Below w5.heap.size w5 w12) := bstep LB.out hb12; clear ho12 hb12))
              have is3 := bsame_yes O12.out (W5.out.below L12.out) (by omega) (fun _ _ => rfl)
              go_wp2_with (first
                | (go_at_call 13; (refine is3.mono ?_); rintro e w' ⟨rfl, hw⟩; obtain rfl := hw.symm))
              go_ret
              exact ⟨rfl, bstep LW5.out L12.out⟩

set_option maxHeartbeats 4000000 in
theorem walk_mended {w : World} {a : Option Addr} {n cap : Nat} (hr : Row w a n) (hn : n ≤ 9223372036854775807) : Calls Try.prog 3 #[.slice a n cap] w fun e w' => e = .returned (.bool true) ∧ Below w.heap.size w w' := by
  by_cases hl : n ≤ 1048576
  · exact walk_in hr hl
  · have i1 := big_x (w := w) a n cap hn
    have e1 : decide (1048576 < (n : Int)) = true := by simp; omega
    rw [e1] at i1
    clear e1 hr
    go_enter Try.func3, Try.ntmps3
    go_wp2_with (first | (go_at_call 9; (with_reducible refine (i1).mono ?_); rintro e w' ⟨rfl, hw⟩; obtain rfl := hw.symm))
    go_ret
    exact ⟨rfl, Below.refl _ _⟩
end Go.Proofs.Ytamcpmclnjngcaa
