/- PlanOk: the law. -/
import Derived.Test.YtiadfabhpagmpaaDoorPM
import Derived.Test.YtiadfabhpagmpaaDoorPJ
import Derived.WalkKit
import Derived.WalkSpells
import Derived.WalkLawsBesides
import Derived.Deep.QuietTactic
import Derived.BigQuiet
import Derived.BigRegion
import Derived.Deep.Cut
import Derived.BigRegion
namespace Go.Proofs.YtiadfabhpagmpaaDoor
open Go.RowKit

theorem same_bool {a b : Bool} {P : Prop} (h : a = true ↔ P) (h2 : b = true ↔ P) : a = b := by
  cases a <;> cases b <;> simp_all

set_option maxRecDepth 20000 in
set_option maxHeartbeats 8000000 in
theorem walk_plan {w : World} {v u : Value} {n m : Nat} {ns : Nat → Nd} {ls : Nat → Lk} (hK : Kds w) (hv : Nl w v n ns) (hu : Ll w u m ls) (hn : n ≤ 9223372036854775807) (hm : m ≤ 9223372036854775807) (hs : ∀ i, i < n → (ns i).nm.size ≤ 9223372036854775807) :
    Calls Tryd.prog 3 #[.agg #[v, u]] w fun e w' => e = .returned (.bool true) ∧ Below w.heap.size w w' := by
  obtain ⟨ao, cap, rfl, hcap⟩ := hv.open
  obtain ⟨bo, cap2, rfl, hcap2⟩ := hu.open
  have HK : Hid (Kds w) := hK
  have HV : Hid (Nl w (.slice ao n cap) n ns) := hv
  have HU : Hid (Ll w (.slice bo m cap2) m ls) := hu
  have BX : Hid (Below w.heap.size w (w.alloc (.cells #[.slice ao n cap, .slice bo m cap2] 25))) := below_one _ _
  have p0 : (w.alloc (.cells #[.slice ao n cap, .slice bo m cap2] 25)).cell? ⟨w.heap.size, 0, none⟩ = some (.slice ao n cap) := by simp
  have p1 : (w.alloc (.cells #[.slice ao n cap, .slice bo m cap2] 25)).cell? ⟨w.heap.size, 1, none⟩ = some (.slice bo m cap2) := by simp
  have iz := szPlan_any (hv.below BX.out) (hu.below BX.out) hn hm hs
  clear hv hu hs hK
  go_enter Tryd.func3, Tryd.ntmps3
  go_upto_region 2 with fail
  generalize w.alloc (.cells #[.slice ao n cap, .slice bo m cap2] 25) = w1 at BX p0 p1 iz ⊢
  have P0 : Hid (w1.cell? ⟨w.heap.size, 0, none⟩ = some (.slice ao n cap)) := p0
  have P1 : Hid (w1.cell? ⟨w.heap.size, 1, none⟩ = some (.slice bo m cap2)) := p1
  have hl1 := World.block_lt_of_cell? _ _ p0
  go_upto_region 3 with (go_at_call 5; (with_reducible refine iz.mono ?_); rintro e w2 ⟨r, rfl, hr, hb⟩; have B2 : Hid (Below w1.heap.size w1 w2) := hb; clear hb)
  clear iz p0 p1 hl1
  rcases hr with rfl | ⟨hr0, n20, m20, h5⟩
  · go_wp2
    go_ret
    exact ⟨rfl, bstep BX.out B2.out⟩
  have HS : Hid (∀ i, i < n → (ns i).nm.size ≤ 1048576) := h5
  clear h5
  have BW : Hid (Below w.heap.size w w2) := bstep BX.out B2.out
  have C2 : Hid (w2.cell? ⟨w.heap.size, 0, none⟩ = some (.slice ao n cap) ∧ w2.cell? ⟨w.heap.size, 1, none⟩ = some (.slice bo m cap2)) := ⟨keepc B2.out P0.out, keepc B2.out P1.out⟩
  clear P0 P1 B2 BX
  obtain ⟨c0, c1⟩ := C2.out
  have hl := World.block_lt_of_cell? _ _ c0
  go_upto_region 6 with (first
    | (go_at_call 7; go_loud (refine (toPlan_any (HV.out.below BW.out) (HU.out.below BW.out) n20 m20).mono ?_); rintro e w3 ⟨hb, va, ua, rfl, nv, lu⟩; have B3 : Hid (Below w2.heap.size w2 w3) := hb; have NV : Hid (Nl w3 va n ns ∧ Ll w3 ua m ls) := ⟨nv, lu⟩; clear hb nv lu)
    | (go_at_call 6; go_loud (refine (sPlan_any NV.out.1 NV.out.2 HS.out n20 m20).mono ?_); rintro e w4 ⟨rs, rfl, hrs, hb⟩; have B4 : Hid (Below w2.heap.size w2 w4) := bstep B3.out hb; have RS : Hid (rs = true ↔ Pok n m ns ls) := hrs; clear hb hrs))
  clear c0 c1 hl
  have BW4 : Hid (Below w.heap.size w w4) := bstep BW.out B4.out
  obtain ⟨c0, c1⟩ : w4.cell? ⟨w.heap.size, 0, none⟩ = some (.slice ao n cap) ∧ w4.cell? ⟨w.heap.size, 1, none⟩ = some (.slice bo m cap2) := ⟨keepc B4.out C2.out.1, keepc B4.out C2.out.2⟩
  have hl := World.block_lt_of_cell? _ _ c0
  go_upto_region 7 with (go_at_call 7; go_loud (refine (toPlan_any (HV.out.below BW4.out) (HU.out.below BW4.out) n20 m20).mono ?_); rintro e w5 ⟨hb, vx, ux, rfl, nv, lu⟩; obtain ⟨xo, xc, rfl, _⟩ := nv.open; obtain ⟨yo, yc, rfl, _⟩ := lu.open; have B5 : Hid (Below w4.heap.size w4 w5) := hb; have NX : Hid (Nl w5 (.slice xo n xc) n ns ∧ Ll w5 (.slice yo m yc) m ls) := ⟨nv, lu⟩; clear hb nv lu)
  clear c0 c1 hl
  have B6 : Hid (Below w4.heap.size w4 (w5.alloc (.cells #[.slice xo n xc, .slice yo m yc] 31))) := bstep B5.out (below_one _ _)
  have NX6 : Hid (Nl (w5.alloc (.cells #[.slice xo n xc, .slice yo m yc] 31)) (.slice xo n xc) n ns ∧ Ll (w5.alloc (.cells #[.slice xo n xc, .slice yo m yc] 31)) (.slice yo m yc) m ls) := ⟨NX.out.1.below (below_one _ _), NX.out.2.below (below_one _ _)⟩
  have x0 : (w5.alloc (.cells #[.slice xo n xc, .slice yo m yc] 31)).cell? ⟨w5.heap.size, 0, none⟩ = some (.slice xo n xc) := by simp
  have x1 : (w5.alloc (.cells #[.slice xo n xc, .slice yo m yc] 31)).cell? ⟨w5.heap.size, 1, none⟩ = some (.slice yo m yc) := by simp
  generalize w5.heap.size = g at x0 x1 ⊢
  generalize w5.alloc (.cells #[.slice xo n xc, .slice yo m yc] 31) = w6 at B6 NX6 x0 x1 ⊢
  have hlx := World.block_lt_of_cell? _ _ x0
  have BW6 : Hid (Below w.heap.size w w6) := bstep BW4.out B6.out
  have X0 : Hid (w6.cell? ⟨g, 0, none⟩ = some (.slice xo n xc) ∧ w6.cell? ⟨g, 1, none⟩ = some (.slice yo m yc)) := ⟨x0, x1⟩
  go_upto_region 8 with (go_at_call 8; go_loud (refine (iPlan_any (HK.out.below BW6.out) NX6.out.1 NX6.out.2 HS.out).mono ?_); rintro e w7 ⟨ri, rfl, hri, hb⟩; have B7 : Hid (Below w6.heap.size w6 w7) := hb; have RI : Hid (ri = true ↔ Pok n m ns ls) := hri; clear hb hri)
  obtain rfl : ri = rs := same_bool RI.out RS.out
  go_upto_region 10 with fail
  clear x0 x1 hlx RI RS
  have BW7 : Hid (Below w.heap.size w w7) := bstep BW6.out B7.out
  have FX : Hid (∀ X, Below w7.heap.size w7 X → (X.cell? ⟨g, 0, none⟩ = some (.slice xo n xc) ∧ X.cell? ⟨g, 1, none⟩ = some (.slice yo m yc)) ∧ X.cell? ⟨w.heap.size, 0, none⟩ = some (.slice ao n cap) ∧ X.cell? ⟨w.heap.size, 1, none⟩ = some (.slice bo m cap2)) := fun X hb => ⟨⟨keepc hb (keepc B7.out X0.out.1), keepc hb (keepc B7.out X0.out.2)⟩, keepc hb (keepc B7.out (keepc B6.out (keepc B4.out C2.out.1))), keepc hb (keepc B7.out (keepc B6.out (keepc B4.out C2.out.2)))⟩
  have hg7 : g < w7.heap.size := World.block_lt_of_cell? _ _ (keepc B7.out X0.out.1)
  have hw7 : w.heap.size < w7.heap.size := World.block_lt_of_cell? _ _ (FX.out w7 (Below.refl _ _)).2.1
  refine wp_region_any (by kernel_rfl) ?_
  change wpAny _ _ _ _ _ _ _ (World.drew _)
  refine wpI_any (I := fun X => Below w7.heap.size w7 X) _ _ _ _ ?_
  have l0 : Below w7.heap.size w7 w7.drew := (Below.refl _ _).drew
  refine wpI_take (i := 0) (v := ?_) rfl (by kernel_rfl) (by kernel_rfl) (by kernel_rfl) (fun _ _ _ h => h) ⟨by rfl, ?_⟩ ?_
  rotate_left
  · intro X hI; obtain ⟨⟨e0, e1⟩, e2, e3⟩ := FX.out X hI; go_simp; try go_bits
    try rw [if_pos (by omega)]
    try with_reducible rfl
  refine wpI_take (i := 1) (v := ?_) rfl (by kernel_rfl) (by kernel_rfl) (by kernel_rfl) (fun _ _ _ h => h) ⟨by rfl, ?_⟩ ?_
  rotate_left
  · intro X hI; obtain ⟨⟨e0, e1⟩, e2, e3⟩ := FX.out X hI; go_simp; try go_bits
    try rw [if_pos (by omega)]
    try with_reducible rfl
  go_simp
  refine wpI_only (i := 2) rfl (by kernel_rfl) l0 (by rfl) ?_
  intro K hK
  go_simp
  go_wp2_with (go_at_call 7; go_loud (refine (toPlan_any (HV.out.below (bstep BW7.out l0)) (HU.out.below (bstep BW7.out l0)) n20 m20).mono ?_); rintro e w8 ⟨hb, vb, ub, rfl, nv, lu⟩; have l1 := bstep l0 hb; have NB : Hid (Nl w8 vb n ns ∧ Ll w8 ub m ls) := ⟨nv, lu⟩; clear hb nv lu)
  have NX8 : Hid (Nl w8 (.slice xo n xc) n ns ∧ Ll w8 (.slice yo m yc) m ls) := ⟨NX6.out.1.below (bstep B7.out l1), NX6.out.2.below (bstep B7.out l1)⟩
  refine wpI_only (i := 3) rfl (by kernel_rfl) l1 (by rfl) ?_
  intro K2 hK2
  go_simp
  go_wp2_with (go_at_call 9; go_loud (refine (eqPlan_yes NX8.out.1 NX8.out.2 NB.out.1 NB.out.2 n20 m20).mono ?_); rintro e w9 ⟨rfl, hb⟩; have l2 := bstep l1 hb; clear hb)
  refine wpI_take (i := 4) (v := ?_) rfl (by kernel_rfl) (by kernel_rfl) (by kernel_rfl) (fun _ _ _ h => h) ⟨by rfl, ?_⟩ ?_
  rotate_left
  · intro X hI; go_simp; try go_bits
    try rw [if_pos (by omega)]
    try with_reducible rfl
  go_simp
  refine wpI_done l2 (by kernel_rfl) ?_ _
  go_wp2
  go_ret
  exact ⟨rfl, bstep BW7.out l2⟩

end Go.Proofs.YtiadfabhpagmpaaDoor
