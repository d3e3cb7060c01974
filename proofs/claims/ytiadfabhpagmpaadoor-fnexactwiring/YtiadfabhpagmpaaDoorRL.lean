/- Wiring: the law. -/
import Derived.Test.YtiadfabhpagmpaaDoorRD
import Derived.Test.YtiadfabhpagmpaaDoorRG
import Derived.Test.YtiadfabhpagmpaaDoorPM
import Derived.Test.YtiadfabhpagmpaaDoorPK
import Derived.WalkKit
import Derived.WalkSpells
import Derived.WalkLawsBesides
import Derived.Deep.QuietTactic
import Derived.BigQuiet
import Derived.BigRegion
import Derived.Deep.Cut
import Derived.BigRegion
namespace Go.Proofs.YtiadfabhpagmpaaDoor
open Go.RowKit

theorem same_ans {P : Prop} {k1 k2 m : Nat} {d1 d2 : Bool} (h : (P → k1 = m ∧ d1 = true) ∧ (¬ P → k1 = 0 ∧ d1 = false)) (h2 : (P → k2 = m ∧ d2 = true) ∧ (¬ P → k2 = 0 ∧ d2 = false)) : k2 = k1 ∧ d2 = d1 := by
  by_cases hp : P
  · exact ⟨(h2.1 hp).1.trans (h.1 hp).1.symm, (h2.1 hp).2.trans (h.1 hp).2.symm⟩
  · exact ⟨(h2.2 hp).1.trans (h.2 hp).1.symm, (h2.2 hp).2.trans (h.2 hp).2.symm⟩

theorem ans_le {P : Prop} {k1 m : Nat} {d1 : Bool} (h : (P → k1 = m ∧ d1 = true) ∧ (¬ P → k1 = 0 ∧ d1 = false)) : k1 ≤ m := by
  by_cases hp : P
  · rw [(h.1 hp).1]; exact Nat.le_refl _
  · rw [(h.2 hp).1]; exact Nat.zero_le _

theorem apart_of {w : World} {B B2 s s2 n n2 : Nat} {e e2 : TypeId} {t o : Value} {xs ys : List Value} (ht : w.ownsRow B e s t n xs) {w2 : World} (ho : w2.ownsRow B2 e2 s2 o n2 ys) (hs : w2.heap.size ≤ B) : Apart t o := by
  by_cases hq : t.ownBlock = none
  · exact .inl hq
  · obtain ⟨q, hq⟩ := Option.ne_none_iff_exists'.1 hq
    refine .inr (fun e => ?_)
    have h1 := (World.ownsRow.lt ht q hq).1
    have h2 := (World.ownsRow.lt ho q (e.symm.trans hq)).2
    omega

set_option maxRecDepth 20000 in
set_option maxHeartbeats 16000000 in
theorem walk_wiring {w : World} {v u : Value} {n m : Nat} {ns : Nat → Nd} {ls : Nat → Lk} (hK : Kds w) (hv : Nl w v n ns) (hu : Ll w u m ls) (hn : n ≤ 9223372036854775807) (hm : m ≤ 9223372036854775807) (hs : ∀ i, i < n → (ns i).nm.size ≤ 9223372036854775807) :
    Calls Tryd.prog 4 #[.agg #[v, u]] w fun e w' => e = .returned (.bool true) ∧ Below w.heap.size w w' := by
  obtain ⟨ao, cap, rfl, hcap⟩ := hv.open
  obtain ⟨bo, cap2, rfl, hcap2⟩ := hu.open
  have HK : Hid (Kds w) := hK
  have HV : Hid (Nl w (.slice ao n cap) n ns) := hv
  have HU : Hid (Ll w (.slice bo m cap2) m ls) := hu
  have BX : Hid (Below w.heap.size w (w.alloc (.cells #[.slice ao n cap, .slice bo m cap2] 25))) := below_one _ _
  have p0 : (w.alloc (.cells #[.slice ao n cap, .slice bo m cap2] 25)).cell? ⟨w.heap.size, 0, none⟩ = some (.slice ao n cap) := by simp
  have p1 : (w.alloc (.cells #[.slice ao n cap, .slice bo m cap2] 25)).cell? ⟨w.heap.size, 1, none⟩ = some (.slice bo m cap2) := by simp
  have iz := szPlan_any (hv.below BX.out) (hu.below BX.out) hn hm hs
  clear hv hu hs hK
  go_enter Tryd.func4, Tryd.ntmps4
  go_upto_region 2 with fail
  generalize w.alloc (.cells #[.slice ao n cap, .slice bo m cap2] 25) = w1 at BX p0 p1 iz ⊢
  have P0 : Hid (w1.cell? ⟨w.heap.size, 0, none⟩ = some (.slice ao n cap)) := p0
  have P1 : Hid (w1.cell? ⟨w.heap.size, 1, none⟩ = some (.slice bo m cap2)) := p1
  have hl1 := World.block_lt_of_cell? _ _ p0
  go_upto_region 3 with (go_at_call 5; (with_reducible refine iz.mono ?_); rintro e w2 ⟨r, rfl, hr, hb⟩; have B2 : Hid (Below w1.heap.size w1 w2) := hb; clear hb)
  clear iz p0 p1 hl1
  rcases hr with rfl | ⟨hr0, n20, m20, h5⟩
  · go_wp2
    go_ret
    exact ⟨rfl, bstep BX.out B2.out⟩
  have HS : Hid (∀ i, i < n → (ns i).nm.size ≤ 1048576) := h5
  clear h5
  have BW : Hid (Below w.heap.size w w2) := bstep BX.out B2.out
  have C2 : Hid (w2.cell? ⟨w.heap.size, 0, none⟩ = some (.slice ao n cap) ∧ w2.cell? ⟨w.heap.size, 1, none⟩ = some (.slice bo m cap2)) := ⟨keepc B2.out P0.out, keepc B2.out P1.out⟩
  clear P0 P1 B2 BX
  obtain ⟨c0, c1⟩ := C2.out
  have hl := World.block_lt_of_cell? _ _ c0
  go_upto_region 6 with (first
    | (go_at_call 7; go_loud (refine (toPlan_any (HV.out.below BW.out) (HU.out.below BW.out) n20 m20).mono ?_); rintro e w3 ⟨hb, va, ua, rfl, nv, lu⟩; have B3 : Hid (Below w2.heap.size w2 w3) := hb; have NV : Hid (Nl w3 va n ns ∧ Ll w3 ua m ls) := ⟨nv, lu⟩; clear hb nv lu)
    | (go_at_call 10; go_loud (refine (sWir_any NV.out.1 NV.out.2 HS.out n20 m20).mono ?_); rintro e w4 ⟨xs, ks, ds, rfl, os, hb, h1, h2⟩; have B4 : Hid (Below w2.heap.size w2 w4) := bstep B3.out hb; have OS : Hid (w4.ownsRow w3.heap.size 65 5 xs ks (ils (zs (wrs ns ls)) (ks * 5))) := os; have S1 : Hid ((Pok n m ns ls → ks = m ∧ ds = true) ∧ (¬ Pok n m ns ls → ks = 0 ∧ ds = false)) := ⟨h1, h2⟩; clear os hb h1 h2))
  clear c0 c1 hl
  have BW4 : Hid (Below w.heap.size w w4) := bstep BW.out B4.out
  have HKS : Hid (ks ≤ 1048576) := Nat.le_trans (ans_le S1.out) m20
  have hks := HKS.out
  obtain ⟨c0, c1⟩ : w4.cell? ⟨w.heap.size, 0, none⟩ = some (.slice ao n cap) ∧ w4.cell? ⟨w.heap.size, 1, none⟩ = some (.slice bo m cap2) := ⟨keepc B4.out C2.out.1, keepc B4.out C2.out.2⟩
  have C4 : Hid (w4.cell? ⟨w.heap.size, 0, none⟩ = some (.slice ao n cap) ∧ w4.cell? ⟨w.heap.size, 1, none⟩ = some (.slice bo m cap2)) := ⟨c0, c1⟩
  have hl := World.block_lt_of_cell? _ _ c0
  go_upto_region 7 with (go_at_call 7; go_loud (refine (toPlan_own (HV.out.below BW4.out) (HU.out.below BW4.out) n20 m20).mono ?_); rintro e w5 ⟨hb, vx, ux, rfl, nv, lu, ap⟩; obtain ⟨xo, xc, rfl⟩ := own_op nv; obtain ⟨yo, yc, rfl⟩ := own_op lu; have B5 : Hid (Below w4.heap.size w4 w5) := hb; have OX : Hid (w5.ownsRow w4.heap.size 47 3 (.slice xo n xc) n (vls (ndc ns) (n * 3)) ∧ w5.ownsRow w4.heap.size 50 2 (.slice yo m yc) m (vls (lkc ls) (m * 2)) ∧ Apart (.slice yo m yc) (.slice xo n xc)) := ⟨nv, lu, ap⟩; clear hb nv lu ap)
  clear c0 c1 hl
  have B6 : Hid (Below w4.heap.size w4 (w5.alloc (.cells #[.slice xo n xc, .slice yo m yc] 31))) := bstep B5.out (below_one _ _)
  have OX6 : Hid ((w5.alloc (.cells #[.slice xo n xc, .slice yo m yc] 31)).ownsRow w4.heap.size 47 3 (.slice xo n xc) n (vls (ndc ns) (n * 3)) ∧ (w5.alloc (.cells #[.slice xo n xc, .slice yo m yc] 31)).ownsRow w4.heap.size 50 2 (.slice yo m yc) m (vls (lkc ls) (m * 2)) ∧ Apart (.slice yo m yc) (.slice xo n xc)) := ⟨own_below OX.out.1 (below_one _ _), own_below OX.out.2.1 (below_one _ _), OX.out.2.2⟩
  have x0 : (w5.alloc (.cells #[.slice xo n xc, .slice yo m yc] 31)).cell? ⟨w5.heap.size, 0, none⟩ = some (.slice xo n xc) := by simp
  have x1 : (w5.alloc (.cells #[.slice xo n xc, .slice yo m yc] 31)).cell? ⟨w5.heap.size, 1, none⟩ = some (.slice yo m yc) := by simp
  generalize w5.heap.size = g at x0 x1 ⊢
  generalize w5.alloc (.cells #[.slice xo n xc, .slice yo m yc] 31) = w6 at B6 OX6 x0 x1 ⊢
  have hlx := World.block_lt_of_cell? _ _ x0
  have BW6 : Hid (Below w.heap.size w w6) := bstep BW4.out B6.out
  have X0 : Hid (w6.cell? ⟨g, 0, none⟩ = some (.slice xo n xc) ∧ w6.cell? ⟨g, 1, none⟩ = some (.slice yo m yc)) := ⟨x0, x1⟩
  go_upto_region 8 with (go_at_call 11; go_loud (refine (iWir_any (HK.out.below BW6.out) (nl_of_own OX6.out.1) (ll_of_own OX6.out.2.1) HS.out).mono ?_); rintro e w7 ⟨xi, ki, di, rfl, oi, hb, h1, h2⟩; obtain ⟨rfl, rfl⟩ := same_ans S1.out ⟨h1, h2⟩; have B7 : Hid (Below w6.heap.size w6 w7) := hb; have OI : Hid (w7.ownsRow w6.heap.size 65 5 xi ki (ils (zs (wrs ns ls)) (ki * 5))) := oi; clear oi hb h1 h2)
  clear x0 x1 hlx
  go_upto_region 10 with (go_at_call 12; go_loud (refine (eq5_yes (il5w_of_own OI.out) (il5w_of_own (own_below OS.out (bstep B6.out B7.out))) hks).mono ?_); rintro e w8 ⟨rfl, hb⟩; have B8 : Hid (Below w7.heap.size w7 w8) := hb; clear hb)
  have B48 : Hid (Below w4.heap.size w4 w8) := bstep B6.out (bstep B7.out B8.out)
  have BW8 : Hid (Below w.heap.size w w8) := bstep BW4.out B48.out
  have OI8 : Hid (w8.ownsRow w6.heap.size 65 5 xi ki (ils (zs (wrs ns ls)) (ki * 5))) := own_below OI.out B8.out
  have OX8 : Hid (w8.ownsRow w4.heap.size 47 3 (.slice xo n xc) n (vls (ndc ns) (n * 3)) ∧ w8.ownsRow w4.heap.size 50 2 (.slice yo m yc) m (vls (lkc ls) (m * 2)) ∧ Apart (.slice yo m yc) (.slice xo n xc)) := ⟨own_below OX6.out.1 (bstep B7.out B8.out), own_below OX6.out.2.1 (bstep B7.out B8.out), OX6.out.2.2⟩
  have FX : Hid (∀ X, Below w8.heap.size w8 X → (X.cell? ⟨g, 0, none⟩ = some (.slice xo n xc) ∧ X.cell? ⟨g, 1, none⟩ = some (.slice yo m yc)) ∧ X.cell? ⟨w.heap.size, 0, none⟩ = some (.slice ao n cap) ∧ X.cell? ⟨w.heap.size, 1, none⟩ = some (.slice bo m cap2)) := fun X hb => ⟨⟨keepc hb (keepc (bstep B7.out B8.out) X0.out.1), keepc hb (keepc (bstep B7.out B8.out) X0.out.2)⟩, keepc hb (keepc B48.out C4.out.1), keepc hb (keepc B48.out C4.out.2)⟩
  have hg7 : g < w8.heap.size := World.block_lt_of_cell? _ _ (FX.out w8 (Below.refl _ _)).1.1
  have hw7 : w.heap.size < w8.heap.size := World.block_lt_of_cell? _ _ (FX.out w8 (Below.refl _ _)).2.1
  refine wp_region_any (by kernel_rfl) ?_
  change wpAny _ _ _ _ _ _ _ (World.drew _)
  refine wpI_any (I := fun X => Below w8.heap.size w8 X) _ _ _ _ ?_
  have l0 : Below w8.heap.size w8 w8.drew := (Below.refl _ _).drew
  refine wpI_take (i := 0) (v := ?_) rfl (by kernel_rfl) (by kernel_rfl) (by kernel_rfl) (fun _ _ _ h => h) ⟨by rfl, ?_⟩ ?_
  rotate_left
  · intro X hI; obtain ⟨⟨e0, e1⟩, e2, e3⟩ := FX.out X hI; go_simp; try go_bits
    try rw [if_pos (by omega)]
    try with_reducible rfl
  refine wpI_take (i := 1) (v := ?_) rfl (by kernel_rfl) (by kernel_rfl) (by kernel_rfl) (fun _ _ _ h => h) ⟨by rfl, ?_⟩ ?_
  rotate_left
  · intro X hI; obtain ⟨⟨e0, e1⟩, e2, e3⟩ := FX.out X hI; go_simp; try go_bits
    try rw [if_pos (by omega)]
    try with_reducible rfl
  go_simp
  refine wpI_only (i := 2) rfl (by kernel_rfl) l0 (by rfl) ?_
  intro K hK
  go_simp
  go_wp2_with (go_at_call 7; go_loud (refine (toPlan_any (HV.out.below (bstep BW8.out l0)) (HU.out.below (bstep BW8.out l0)) n20 m20).mono ?_); rintro e w9 ⟨hb, vb, ub, rfl, nv, lu⟩; have l1 := bstep l0 hb; have NB : Hid (Nl w9 vb n ns ∧ Ll w9 ub m ls) := ⟨nv, lu⟩; clear hb nv lu)
  have NX9 : Hid (Nl w9 (.slice xo n xc) n ns ∧ Ll w9 (.slice yo m yc) m ls) := ⟨(nl_of_own OX8.out.1).below l1, (ll_of_own OX8.out.2.1).below l1⟩
  refine wpI_only (i := 3) rfl (by kernel_rfl) l1 (by rfl) ?_
  intro K2 hK2
  go_simp
  go_wp2_with (go_at_call 9; go_loud (refine (eqPlan_yes NX9.out.1 NX9.out.2 NB.out.1 NB.out.2 n20 m20).mono ?_); rintro e w10 ⟨rfl, hb⟩; have l2 := bstep l1 hb; clear hb)
  refine wpI_take (i := 4) (v := ?_) rfl (by kernel_rfl) (by kernel_rfl) (by kernel_rfl) (fun _ _ _ h => h) ⟨by rfl, ?_⟩ ?_
  rotate_left
  · intro X hI; go_simp; try go_bits
    try rw [if_pos (by omega)]
    try with_reducible rfl
  go_simp
  refine wpI_done l2 (by kernel_rfl) ?_ _
  have L2 : Hid (Below w8.heap.size w8 w10) := l2
  obtain ⟨⟨c0, c1⟩, c2, c3⟩ := FX.out w10 l2
  clear l0 l1 l2
  have hg10 := World.block_lt_of_cell? _ _ c0
  have OX10 : Hid (w10.ownsRow w4.heap.size 47 3 (.slice xo n xc) n (vls (ndc ns) (n * 3)) ∧ w10.ownsRow w4.heap.size 50 2 (.slice yo m yc) m (vls (lkc ls) (m * 2)) ∧ Apart (.slice yo m yc) (.slice xo n xc)) := ⟨own_below OX8.out.1 L2.out, own_below OX8.out.2.1 L2.out, OX8.out.2.2⟩
  go_upto_region 14 with (go_at_call 13; go_loud (refine (markPlan_any OX10.out.1 OX10.out.2.1 OX10.out.2.2 n20 m20).mono ?_); rintro e w11 ⟨⟨k1, rfl, hk1⟩, wm, hga, hgb⟩; have GA : Hid (w10.grownBy wm (Value.slice xo n xc).ownBlock ∧ wm.grownBy w11 (Value.slice yo m yc).ownBlock) := ⟨hga, hgb⟩; clear hga hgb)
  clear c0 c1 c2 c3 hg10
  have B4m : Hid (Below w4.heap.size w4 wm) := (bstep B48.out L2.out).grown GA.out.1 (bstep B48.out L2.out).size (fun q hq => (World.ownsRow.lt OX.out.1 q hq).1)
  have B4n : Hid (Below w4.heap.size w4 w11) := B4m.out.grown GA.out.2 B4m.out.size (fun q hq => (World.ownsRow.lt OX.out.2.1 q hq).1)
  have OI11 : Hid (w11.ownsRow w6.heap.size 65 5 xi ki (ils (zs (wrs ns ls)) (ki * 5))) := own_grown (own_grown (own_below OI8.out L2.out) GA.out.1 (apart_of OI.out OX6.out.1 (Nat.le_refl _))) GA.out.2 (apart_of OI.out OX6.out.2.1 (Nat.le_refl _))
  have hs11 : Hid (w6.heap.size ≤ w11.heap.size) := Nat.le_trans (Nat.le_trans (bstep B7.out B8.out).size L2.out.size) (Nat.le_trans GA.out.1.size GA.out.2.size)
  go_upto_region 17 with (go_at_call 12; go_loud (refine (eq5_yes (il5w_of_own OI11.out) (il5w_of_own (own_below OS.out B4n.out)) hks).mono ?_); rintro e w12 ⟨rfl, hb⟩; have B12 : Hid (Below w11.heap.size w11 w12) := hb; clear hb)
  have OI12 : Hid (w12.ownsRow w6.heap.size 65 5 xi ki (ils (zs (wrs ns ls)) (ki * 5))) := own_below OI11.out B12.out
  have hs12 : Hid (w6.heap.size ≤ w12.heap.size) := Nat.le_trans hs11.out B12.out.size
  have im := markedw (K := 1) OI12.out hs12.out hks (by omega)
  go_upto_region 19 with (go_at_call 14; go_loud (refine im.mono ?_); rintro e w13 ⟨rfl, ⟨gi, hgi, hgx, hon⟩, om⟩; clear hgx; have OM : Hid (w13.ownsRow w6.heap.size 65 5 xi ki (ils (mkF 1) (ki * 5))) := om; go_loud (have B13 : Hid (Below w4.heap.size w4 w13) := Below.only (bstep B4n.out B12.out) hon (Nat.le_trans B6.out.size hgi)); clear hon om hgi im)
  go_upto_region 24 with (go_at_call 15; go_loud (refine (heldw (K := 1) OM.out hks ⟨by decide, by decide⟩).mono ?_); rintro e w14 ⟨rfl, hw⟩; obtain rfl := hw.symm)
  have BW13 : Hid (Below w.heap.size w w13) := bstep BW4.out B13.out
  obtain ⟨c2, c3⟩ : w13.cell? ⟨w.heap.size, 0, none⟩ = some (.slice ao n cap) ∧ w13.cell? ⟨w.heap.size, 1, none⟩ = some (.slice bo m cap2) := ⟨keepc B13.out C4.out.1, keepc B13.out C4.out.2⟩
  have hg13 := World.block_lt_of_cell? _ _ c2
  go_upto_region 25 with (first
    | (go_at_call 7; go_loud (refine (toPlan_any (HV.out.below BW13.out) (HU.out.below BW13.out) n20 m20).mono ?_); rintro e w15 ⟨hb, vc, uc, rfl, nv, lu⟩; have B15 : Hid (Below w13.heap.size w13 w15) := hb; have NC : Hid (Nl w15 vc n ns ∧ Ll w15 uc m ls) := ⟨nv, lu⟩; clear hb nv lu)
    | (go_at_call 11; go_loud (refine (iWir_any (HK.out.below (bstep BW13.out B15.out)) NC.out.1 NC.out.2 HS.out).mono ?_); rintro e w16 ⟨xh, kh, dh, rfl, oh, hb, h1, h2⟩; obtain ⟨rfl, rfl⟩ := same_ans ⟨h1, h2⟩ S1.out; have B16 : Hid (Below w13.heap.size w13 w16) := bstep B15.out hb; have OH : Hid (w16.ownsRow w15.heap.size 65 5 xh _ (ils (zs (wrs ns ls)) (_ * 5))) := oh; clear oh hb h1 h2))
  clear c2 c3 hg13
  have OM16 : Hid (w16.ownsRow w6.heap.size 65 5 xi _ (ils (mkF 1) (_ * 5))) := own_below OM.out B16.out
  go_upto_region 28 with (go_at_call 12; go_loud (refine (eq5_yes (il5w_of_own OH.out) (il5w_of_own (own_below OS.out (bstep B13.out B16.out))) hks).mono ?_); rintro e w17 ⟨rfl, hb⟩; have B17 : Hid (Below w16.heap.size w16 w17) := hb; clear hb)
  have OM17 : Hid (w17.ownsRow w6.heap.size 65 5 xi _ (ils (mkF 1) (_ * 5))) := own_below OM16.out B17.out
  have BZ : Hid (Below w.heap.size w w17) := bstep BW13.out (bstep B16.out B17.out)
  go_wp2_with (go_at_call 15; go_loud (refine (heldw (K := 1) OM17.out hks ⟨by decide, by decide⟩).mono ?_); rintro e w18 ⟨rfl, hw⟩; obtain rfl := hw.symm)
  go_ret
  exact ⟨rfl, BZ.out⟩

end Go.Proofs.YtiadfabhpagmpaaDoor
