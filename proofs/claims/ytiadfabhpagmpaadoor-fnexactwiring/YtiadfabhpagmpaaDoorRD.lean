/- Wiring: the model. -/
import Derived.Test.YtiadfabhpagmpaaDoorRC
import Derived.Test.YtiadfabhpagmpaaDoorPJ
import Derived.Test.YtiadfabhpagmpaaDoorRE
import Derived.WalkKit
import Derived.WalkSpells
import Derived.WalkLawsBesides
import Derived.Deep.QuietTactic
import Derived.BigQuiet
import Derived.BigRegion
import Derived.Deep.Cut
import Derived.BigRegion
namespace Go.Proofs.YtiadfabhpagmpaaDoor
open Go.RowKit

/-- What the model's round reads. -/
def Rds (p nb noff n nc b off m c2 k f t : Nat) (x y : Nd) (X : World) : Prop := X.cell? ⟨p, 0, none⟩ = some (.slice (some ⟨nb, noff, none⟩) n nc) ∧ X.cell? ⟨p, 1, none⟩ = some (.slice (some ⟨b, off, none⟩) m c2) ∧ X.cell? ⟨b, off + k * 2, none⟩ = some (.int .i64 (f : Int)) ∧ X.cell? ⟨b, off + k * 2 + 1, none⟩ = some (.int .i64 (t : Int)) ∧ X.cell? ⟨nb, noff + f * 3, none⟩ = some (.string x.nm) ∧ X.cell? ⟨nb, noff + f * 3 + 1, none⟩ = some (.int .i64 x.kd) ∧ X.cell? ⟨nb, noff + f * 3 + 2, none⟩ = some (.int .i64 x.nn) ∧ X.cell? ⟨nb, noff + t * 3, none⟩ = some (.string y.nm) ∧ X.cell? ⟨nb, noff + t * 3 + 1, none⟩ = some (.int .i64 y.kd) ∧ X.cell? ⟨nb, noff + t * 3 + 2, none⟩ = some (.int .i64 y.nn)

theorem Rds.below {p nb noff n nc b off m c2 k f t : Nat} {x y : Nd} {X Y : World} (h : Rds p nb noff n nc b off m c2 k f t x y X) (hb : Below X.heap.size X Y) : Rds p nb noff n nc b off m c2 k f t x y Y := by
  obtain ⟨h0, h1, h2, h3, h4, h5, h6, h7, h8, h9⟩ := h
  exact ⟨keepc hb h0, keepc hb h1, keepc hb h2, keepc hb h3, keepc hb h4, keepc hb h5, keepc hb h6, keepc hb h7, keepc hb h8, keepc hb h9⟩

/-- Cells of a node in a block of its own, of a wire. -/
def Nc (X : World) (g : Nat) (x : Nd) : Prop := (X.cell? ⟨g, 0, none⟩ = some (.string x.nm) ∧ X.cell? ⟨g, 1, none⟩ = some (.int .i64 x.kd) ∧ X.cell? ⟨g, 2, none⟩ = some (.int .i64 x.nn)) ∧ g < X.heap.size
def Wc (X : World) (g : Nat) (r : Wr) : Prop := X.ownsRow g 65 5 (.slice (some ⟨g, 0, none⟩) 1 1) 1 (ils r.n 5)

set_option maxRecDepth 20000 in
set_option maxHeartbeats 8000000 in
theorem sWir_any {w : World} {v u : Value} {n m : Nat} {ns : Nat → Nd} {ls : Nat → Lk} (hv : Nl w v n ns) (hu : Ll w u m ls) (hs : ∀ i, i < n → (ns i).nm.size ≤ 1048576) (hn1 : n ≤ 1048576) (hm1 : m ≤ 1048576) :
    Calls Tryd.prog 10 #[.agg #[v, u]] w fun e w' => ∃ (x : Value) (k : Nat) (d : Bool), e = .returned (.tuple #[x, .bool d]) ∧ w'.ownsRow w.heap.size 65 5 x k (ils (zs (wrs ns ls)) (k * 5)) ∧ Below w.heap.size w w' ∧ (Pok n m ns ls → k = m ∧ d = true) ∧ (¬ Pok n m ns ls → k = 0 ∧ d = false) := by
  obtain ⟨i0, hi, hz0, hz1, hz2⟩ := info_parts infoW
  obtain ⟨ao, cap, rfl, hcap⟩ := hv.open
  obtain ⟨bo, cap2, rfl, hcap2⟩ := hu.open
  have HV : Hid (Nl w (.slice ao n cap) n ns) := hv
  have HL : Hid (Ll w (.slice bo m cap2) m ls) := hu
  have HS : Hid (∀ i, i < n → (ns i).nm.size ≤ 1048576) := hs
  clear hv hu hs
  obtain ⟨wa, hwa⟩ : ∃ wa, wa = w.alloc (.cells #[.slice ao n cap, .slice bo m cap2] 31) := ⟨_, rfl⟩
  obtain ⟨wb, hwb⟩ : ∃ wb, wb = wa.alloc (.cells #[] 65) := ⟨_, rfl⟩
  have sa : wa.heap.size = w.heap.size + 1 := by rw [hwa]; simp
  have BA : Hid (Below w.heap.size w wa) := by rw [hwa]; exact below_one _ _
  have BB : Hid (Below wa.heap.size wa wb) := by rw [hwb]; exact below_one _ _
  have PA0 : Hid (wa.cell? ⟨w.heap.size, 0, none⟩ = some (.slice ao n cap)) := by show wa.cell? _ = _; rw [hwa]; simp
  have PA1 : Hid (wa.cell? ⟨w.heap.size, 1, none⟩ = some (.slice bo m cap2)) := by show wa.cell? _ = _; rw [hwa]; simp
  have O0 : Hid (wb.ownsRow wa.heap.size 65 5 (.slice (some ⟨wa.heap.size, 0, none⟩) 0 0) 0 (ils (zs (wrs ns ls)) (0 * 5))) := by rw [hwb]; exact own_empty wa 65 5
  have p0 := keepc BB.out PA0.out
  have p1 := keepc BB.out PA1.out
  have iP := (sPlan_any (HV.out.below (bstep BA.out BB.out)) (HL.out.below (bstep BA.out BB.out)) HS.out hn1 hm1)
  by_cases hp : Pok n m ns ls
  rotate_left
  · have HP : Hid (¬ Pok n m ns ls) := hp
    clear hp
    go_enter Tryd.func10, Tryd.ntmps10
    go_upto_region 2 with fail
    rw [← hwa, ← sa, ← hwb]
    clear hwa hwb sa
    have hpg := World.block_lt_of_cell? _ _ p0
    go_wp2_with (go_at_call 6; (with_reducible refine iP.mono ?_); rintro e w2 ⟨r, rfl, hr, hb⟩; obtain rfl : r = false := (match r, hr with | false, _ => rfl | true, hr => absurd (hr.1 rfl) HP.out); have B2 : Hid (Below wa.heap.size wa w2) := bstep BB.out hb; have O2 := own_below O0.out hb; have O2 : Hid (w2.ownsRow wa.heap.size 65 5 (.slice (some ⟨wa.heap.size, 0, none⟩) 0 0) 0 (ils (zs (wrs ns ls)) (0 * 5))) := O2; clear hb hr)
    go_ret2
    exact ⟨_, 0, false, rfl, own_base O2.out BA.out.size, bstep BA.out B2.out, fun h => absurd h HP.out, fun _ => ⟨rfl, rfl⟩⟩
  have HP : Hid (Pok n m ns ls) := hp
  have hn20 : n ≤ 20 := hp.1.2
  have hm40 : m ≤ 40 := hp.2.1
  clear hp
  go_enter Tryd.func10, Tryd.ntmps10
  go_upto_region 2 with fail
  rw [← hwa, ← sa, ← hwb]
  have HSA : Hid (wa.heap.size = w.heap.size + 1) := sa
  clear hwa hwb sa
  have hpg := World.block_lt_of_cell? _ _ p0
  go_upto_region 4 with (go_at_call 6; (with_reducible refine iP.mono ?_); rintro e w2 ⟨r, rfl, hr, hb⟩; obtain rfl : r = true := hr.2 HP.out; have B2 : Hid (Below wa.heap.size wa w2) := bstep BB.out hb; have O2 := own_below O0.out hb; have O2 : Hid (w2.ownsRow wa.heap.size 65 5 (.slice (some ⟨wa.heap.size, 0, none⟩) 0 0) 0 (ils (zs (wrs ns ls)) (0 * 5))) := O2; clear hb hr)
  clear iP p0 p1 hpg
  go_upto_region 5 with fail
  go_loopw [5, 4, 6, 7, 8] (fun i x _ _ _ wr => ∃ (k : Nat) (xo : Option Addr) (xc : Nat), i = .int .i64 k ∧ k ≤ m ∧ x = .slice xo k xc ∧ Hid (wr.ownsRow wa.heap.size 65 5 (.slice xo k xc) k (ils (zs (wrs ns ls)) (k * 5))) ∧ Hid (Below wa.heap.size wa wr)) (fun i _ _ _ _ _ => m - (intOf i).toNat)
  case atStart => exact ⟨0, _, _, rfl, by omega, rfl, O2.out, B2.out⟩
  case round =>
    clear O2 B2
    obtain ⟨k, xo, xc, rfl, hk, rfl, OW, BW⟩ := hrel
    have BT : Hid (Below w.heap.size w wr) := bstep BA.out BW.out
    have p1 := keepc BW.out PA1.out
    have hsw : w.heap.size < wr.heap.size := World.block_lt_of_cell? _ _ p1
    by_cases h1 : k < m
    · have p0 := keepc BW.out PA0.out
      obtain ⟨b, off, rfl, hlt, hcell⟩ := (HL.out.below BT.out).cells (by omega)
      obtain ⟨c0, c1⟩ := hcell k h1
      have hgd := HP.out.2.2.2.1 k h1
      clear hcell
      obtain ⟨f, hf⟩ : ∃ f : Nat, (ls k).fr = (f : Int) := ⟨(ls k).fr.toNat, by have := hgd.1; omega⟩
      obtain ⟨t, ht⟩ : ∃ t : Nat, (ls k).to = (t : Int) := ⟨(ls k).to.toNat, by have := hgd.2.1; omega⟩
      have hfn : f < n := by have := hgd.1; omega
      have htn : t < n := by have := hgd.2.1; omega
      obtain ⟨nb, noff, rfl, hnl, hnc⟩ := HV.out.cells (by omega)
      obtain ⟨f0, f1, f2⟩ := hnc f hfn
      obtain ⟨t0, t1, t2⟩ := hnc t htn
      have HWR : Hid (wrs ns ls k = wrf (ls k) (ns f) (ns t)) := by
        show wrf (ls k) (ns (ls k).fr.toNat) (ns (ls k).to.toNat) = _
        rw [hf, ht]
        rfl
      rw [hf] at c0
      rw [ht] at c1
      have HFT : Hid ((ls k).fr = (f : Int) ∧ (ls k).to = (t : Int)) := ⟨hf, ht⟩
      clear hf ht
      have f0 := keepc BT.out f0
      have f1 := keepc BT.out f1
      have f2 := keepc BT.out f2
      have t0 := keepc BT.out t0
      have t1 := keepc BT.out t1
      have t2 := keepc BT.out t2
      clear hnc hgd hnl
      have HRB : Hid (∀ q, (Value.slice xo k xc).ownBlock = some q → wa.heap.size ≤ q ∧ q < wr.heap.size) := fun q hq => ⟨(World.ownsRow.lt OW.out q hq).1, (World.ownsRow.lt OW.out q hq).2⟩
      go_upto_region 7 with fail
      have RD : Hid (Rds w.heap.size nb noff n cap b off m cap2 k f t (ns f) (ns t) wr) := ⟨p0, p1, c0, c1, f0, f1, f2, t0, t1, t2⟩
      clear p0 p1 c0 c1 f0 f1 f2 t0 t1 t2
      refine wp_region_any (by kernel_rfl) ?_
      change wpAny _ _ _ _ _ _ _ (World.drew _)
      have RD : Hid (Rds w.heap.size nb noff n cap b off m cap2 k f t (ns f) (ns t) wr.drew) := RD.out.below ((Below.refl _ _).drew)
      have OW7 : Hid (wr.drew.ownsRow wa.heap.size 65 5 (.slice xo k xc) k (ils (zs (wrs ns ls)) (k * 5))) := own_below OW.out ((Below.refl _ _).drew)
      have BW7 : Hid (Below wa.heap.size wa wr.drew) := bstep BW.out ((Below.refl _ _).drew)
      have hsz : wr.drew.heap.size = wr.heap.size := rfl
      rw [← hsz] at HRB hsw
      clear hsz
      generalize wr.drew = W at RD OW7 BW7 HRB hsw ⊢
      refine wpI_any (I := Rds w.heap.size nb noff n cap b off m cap2 k f t (ns f) (ns t)) _ _ _ _ ?_
      refine wpI_take (i := 0) (v := ?_) rfl (by kernel_rfl) (by kernel_rfl) (by kernel_rfl) (fun _ _ _ h => h) ⟨by rfl, ?_⟩ ?_
      rotate_left
      · intro X hI; obtain ⟨e0, e1, e2, e3, e4, e5, e6, e7, e8, e9⟩ := hI; go_simp; try go_bits
        try rw [if_pos (by omega)]
        try with_reducible rfl
      refine wpI_take (i := 1) (v := ?_) rfl (by kernel_rfl) (by kernel_rfl) (by kernel_rfl) (fun _ _ _ h => h) ⟨by rfl, ?_⟩ ?_
      rotate_left
      · intro X hI; obtain ⟨e0, e1, e2, e3, e4, e5, e6, e7, e8, e9⟩ := hI; go_simp; try go_bits
        try rw [if_pos (by omega)]
        try with_reducible rfl
      refine wpI_take (i := 2) (v := ?_) rfl (by kernel_rfl) (by kernel_rfl) (by kernel_rfl) (fun _ _ _ h => h) ⟨by rfl, ?_⟩ ?_
      rotate_left
      · intro X hI; obtain ⟨e0, e1, e2, e3, e4, e5, e6, e7, e8, e9⟩ := hI; go_simp; try go_bits
        try rw [if_pos (by omega)]
        try with_reducible rfl
      refine wpI_take (i := 3) (v := ?_) rfl (by kernel_rfl) (by kernel_rfl) (by kernel_rfl) (fun _ _ _ h => h) ⟨by rfl, ?_⟩ ?_
      rotate_left
      · intro X hI; obtain ⟨e0, e1, e2, e3, e4, e5, e6, e7, e8, e9⟩ := hI; go_simp; try go_bits
        try rw [if_pos (by omega)]
        try with_reducible rfl
      go_simp
      refine wpI_take (i := 4) (v := ?_) rfl (by kernel_rfl) (by kernel_rfl) (by kernel_rfl) (fun _ _ _ h => h) ⟨by rfl, ?_⟩ ?_
      rotate_left
      · intro X hI; obtain ⟨e0, e1, e2, e3, e4, e5, e6, e7, e8, e9⟩ := hI; go_simp; try go_bits
        try rw [if_pos (by omega)]
        try with_reducible rfl
      refine wpI_take (i := 5) (v := ?_) rfl (by kernel_rfl) (by kernel_rfl) (by kernel_rfl) (fun _ _ _ h => h) ⟨by rfl, ?_⟩ ?_
      rotate_left
      · intro X hI; obtain ⟨e0, e1, e2, e3, e4, e5, e6, e7, e8, e9⟩ := hI; go_simp; try go_bits
        try rw [if_pos (by omega)]
        try with_reducible rfl
      refine wpI_take (i := 6) (v := ?_) rfl (by kernel_rfl) (by kernel_rfl) (by kernel_rfl) (fun _ _ _ h => h) ⟨by rfl, ?_⟩ ?_
      rotate_left
      · intro X hI; obtain ⟨e0, e1, e2, e3, e4, e5, e6, e7, e8, e9⟩ := hI; go_simp; try go_bits
        try rw [if_pos (by omega)]
        try with_reducible rfl
      refine wpI_take (i := 7) (v := ?_) rfl (by kernel_rfl) (by kernel_rfl) (by kernel_rfl) (fun _ _ _ h => h) ⟨by rfl, ?_⟩ ?_
      rotate_left
      · intro X hI; obtain ⟨e0, e1, e2, e3, e4, e5, e6, e7, e8, e9⟩ := hI; go_simp; try go_bits
        try rw [if_pos (by omega)]
        try with_reducible rfl
      go_simp
      refine wpI_take (i := 8) (v := ?_) rfl (by kernel_rfl) (by kernel_rfl) (by kernel_rfl) (fun _ _ _ h => h) ⟨by rfl, ?_⟩ ?_
      rotate_left
      · intro X hI; obtain ⟨e0, e1, e2, e3, e4, e5, e6, e7, e8, e9⟩ := hI; go_simp; try go_bits
        try rw [if_pos (by omega)]
        try with_reducible rfl
      refine wpI_take (i := 9) (v := ?_) rfl (by kernel_rfl) (by kernel_rfl) (by kernel_rfl) (fun _ _ _ h => h) ⟨by rfl, ?_⟩ ?_
      rotate_left
      · intro X hI; obtain ⟨e0, e1, e2, e3, e4, e5, e6, e7, e8, e9⟩ := hI; go_simp; try go_bits
        try rw [if_pos (by omega)]
        try with_reducible rfl
      refine wpI_take (i := 10) (v := ?_) rfl (by kernel_rfl) (by kernel_rfl) (by kernel_rfl) (fun _ _ _ h => h) ⟨by rfl, ?_⟩ ?_
      rotate_left
      · intro X hI; obtain ⟨e0, e1, e2, e3, e4, e5, e6, e7, e8, e9⟩ := hI; go_simp; try go_bits
        try rw [if_pos (by omega)]
        try with_reducible rfl
      refine wpI_take (i := 11) (v := ?_) rfl (by kernel_rfl) (by kernel_rfl) (by kernel_rfl) (fun _ _ _ h => h) ⟨by rfl, ?_⟩ ?_
      rotate_left
      · intro X hI; obtain ⟨e0, e1, e2, e3, e4, e5, e6, e7, e8, e9⟩ := hI; go_simp; try go_bits
        try rw [if_pos (by omega)]
        try with_reducible rfl
      go_simp
      refine wpI_take (i := 12) (v := ?_) rfl (by kernel_rfl) (by kernel_rfl) (by kernel_rfl) (fun _ _ _ h => h) ⟨by rfl, ?_⟩ ?_
      rotate_left
      · intro X hI; obtain ⟨e0, e1, e2, e3, e4, e5, e6, e7, e8, e9⟩ := hI; go_simp; try go_bits
        try rw [if_pos (by omega)]
        try with_reducible rfl
      refine wpI_take (i := 13) (v := ?_) rfl (by kernel_rfl) (by kernel_rfl) (by kernel_rfl) (fun _ _ _ h => h) ⟨by rfl, ?_⟩ ?_
      rotate_left
      · intro X hI; obtain ⟨e0, e1, e2, e3, e4, e5, e6, e7, e8, e9⟩ := hI; go_simp; try go_bits
        try rw [if_pos (by omega)]
        try with_reducible rfl
      refine wpI_take (i := 14) (v := ?_) rfl (by kernel_rfl) (by kernel_rfl) (by kernel_rfl) (fun _ _ _ h => h) ⟨by rfl, ?_⟩ ?_
      rotate_left
      · intro X hI; obtain ⟨e0, e1, e2, e3, e4, e5, e6, e7, e8, e9⟩ := hI; go_simp; try go_bits
        try rw [if_pos (by omega)]
        try with_reducible rfl
      refine wpI_take (i := 15) (v := ?_) rfl (by kernel_rfl) (by kernel_rfl) (by kernel_rfl) (fun _ _ _ h => h) ⟨by rfl, ?_⟩ ?_
      rotate_left
      · intro X hI; obtain ⟨e0, e1, e2, e3, e4, e5, e6, e7, e8, e9⟩ := hI; go_simp; try go_bits
        try rw [if_pos (by omega)]
        try with_reducible rfl
      go_simp
      refine wpI_take (i := 16) (v := ?_) rfl (by kernel_rfl) (by kernel_rfl) (by kernel_rfl) (fun _ _ _ h => h) ⟨by rfl, ?_⟩ ?_
      rotate_left
      · intro X hI; obtain ⟨e0, e1, e2, e3, e4, e5, e6, e7, e8, e9⟩ := hI; go_simp; try go_bits
        try rw [if_pos (by omega)]
        try with_reducible rfl
      refine wpI_take (i := 17) (v := ?_) rfl (by kernel_rfl) (by kernel_rfl) (by kernel_rfl) (fun _ _ _ h => h) ⟨by rfl, ?_⟩ ?_
      rotate_left
      · intro X hI; obtain ⟨e0, e1, e2, e3, e4, e5, e6, e7, e8, e9⟩ := hI; go_simp; try go_bits
        try rw [if_pos (by omega)]
        try with_reducible rfl
      refine wpI_take (i := 18) (v := ?_) rfl (by kernel_rfl) (by kernel_rfl) (by kernel_rfl) (fun _ _ _ h => h) ⟨by rfl, ?_⟩ ?_
      rotate_left
      · intro X hI; obtain ⟨e0, e1, e2, e3, e4, e5, e6, e7, e8, e9⟩ := hI; go_simp; try go_bits
        try rw [if_pos (by omega)]
        try with_reducible rfl
      refine wpI_take (i := 19) (v := ?_) rfl (by kernel_rfl) (by kernel_rfl) (by kernel_rfl) (fun _ _ _ h => h) ⟨by rfl, ?_⟩ ?_
      rotate_left
      · intro X hI; obtain ⟨e0, e1, e2, e3, e4, e5, e6, e7, e8, e9⟩ := hI; go_simp; try go_bits
        try rw [if_pos (by omega)]
        try with_reducible rfl
      go_simp
      refine wpI_two (i := 20) (j := 21) rfl rfl (by kernel_rfl) RD.out (by rfl) (by rfl) ?_ ?_
      · intro K hK
        go_simp
        refine hK _ _ ?_
        refine wpI_only (i := 21) rfl (by kernel_rfl) (RD.out.below (below_one _ _)) (by rfl) ?_
        intro K hK
        go_simp
        refine hK _ _ ?_
        refine wpI_only (i := 22) rfl (by kernel_rfl) (RD.out.below (bstep (below_one _ _) (below_one _ _))) (by rfl) ?_
        intro K hK
        go_simp
        refine hK _ _ ?_
        refine wpI_only (i := 23) rfl (by kernel_rfl) (RD.out.below (bstep (below_one _ _) (below_one _ _))) (by rfl) ?_
        intro K hK
        go_simp
        refine hK _ _ ?_
        refine wpI_done (RD.out.below (bstep (below_one _ _) (below_one _ _))) (by kernel_rfl) ?_ _
        have BX : Below W.heap.size W ((W.alloc (.cells #[.string (ns f).nm, .int .i64 (ns f).kd, .int .i64 (ns f).nn] 47)).alloc (.cells #[.string (ns t).nm, .int .i64 (ns t).kd, .int .i64 (ns t).nn] 47)) := bstep (below_one _ _) (below_one _ _)
        have a0 : ((W.alloc (.cells #[.string (ns f).nm, .int .i64 (ns f).kd, .int .i64 (ns f).nn] 47)).alloc (.cells #[.string (ns t).nm, .int .i64 (ns t).kd, .int .i64 (ns t).nn] 47)).cell? ⟨W.heap.size, 0, none⟩ = some (.string (ns f).nm) := by simp
        have a1 : ((W.alloc (.cells #[.string (ns f).nm, .int .i64 (ns f).kd, .int .i64 (ns f).nn] 47)).alloc (.cells #[.string (ns t).nm, .int .i64 (ns t).kd, .int .i64 (ns t).nn] 47)).cell? ⟨W.heap.size, 1, none⟩ = some (.int .i64 (ns f).kd) := by simp
        have a2 : ((W.alloc (.cells #[.string (ns f).nm, .int .i64 (ns f).kd, .int .i64 (ns f).nn] 47)).alloc (.cells #[.string (ns t).nm, .int .i64 (ns t).kd, .int .i64 (ns t).nn] 47)).cell? ⟨W.heap.size, 2, none⟩ = some (.int .i64 (ns f).nn) := by simp
        have b0 : ((W.alloc (.cells #[.string (ns f).nm, .int .i64 (ns f).kd, .int .i64 (ns f).nn] 47)).alloc (.cells #[.string (ns t).nm, .int .i64 (ns t).kd, .int .i64 (ns t).nn] 47)).cell? ⟨W.heap.size + 1, 0, none⟩ = some (.string (ns t).nm) := by simp
        have b1 : ((W.alloc (.cells #[.string (ns f).nm, .int .i64 (ns f).kd, .int .i64 (ns f).nn] 47)).alloc (.cells #[.string (ns t).nm, .int .i64 (ns t).kd, .int .i64 (ns t).nn] 47)).cell? ⟨W.heap.size + 1, 1, none⟩ = some (.int .i64 (ns t).kd) := by simp
        have b2 : ((W.alloc (.cells #[.string (ns f).nm, .int .i64 (ns f).kd, .int .i64 (ns f).nn] 47)).alloc (.cells #[.string (ns t).nm, .int .i64 (ns t).kd, .int .i64 (ns t).nn] 47)).cell? ⟨W.heap.size + 1, 2, none⟩ = some (.int .i64 (ns t).nn) := by simp
        have RD := RD.out.below BX
        have RD : Hid (Rds w.heap.size nb noff n cap b off m cap2 k f t (ns f) (ns t) ((W.alloc (.cells #[.string (ns f).nm, .int .i64 (ns f).kd, .int .i64 (ns f).nn] 47)).alloc (.cells #[.string (ns t).nm, .int .i64 (ns t).kd, .int .i64 (ns t).nn] 47))) := RD
        have OW7 : Hid (((W.alloc (.cells #[.string (ns f).nm, .int .i64 (ns f).kd, .int .i64 (ns f).nn] 47)).alloc (.cells #[.string (ns t).nm, .int .i64 (ns t).kd, .int .i64 (ns t).nn] 47)).ownsRow wa.heap.size 65 5 (.slice xo k xc) k (ils (zs (wrs ns ls)) (k * 5))) := own_below OW7.out BX
        have BW7 : Hid (Below wa.heap.size wa ((W.alloc (.cells #[.string (ns f).nm, .int .i64 (ns f).kd, .int .i64 (ns f).nn] 47)).alloc (.cells #[.string (ns t).nm, .int .i64 (ns t).kd, .int .i64 (ns t).nn] 47))) := bstep BW7.out BX
        have hsw : w.heap.size < ((W.alloc (.cells #[.string (ns f).nm, .int .i64 (ns f).kd, .int .i64 (ns f).nn] 47)).alloc (.cells #[.string (ns t).nm, .int .i64 (ns t).kd, .int .i64 (ns t).nn] 47)).heap.size := Nat.lt_of_lt_of_le hsw BX.size
        clear BX
        generalize ((W.alloc (.cells #[.string (ns f).nm, .int .i64 (ns f).kd, .int .i64 (ns f).nn] 47)).alloc (.cells #[.string (ns t).nm, .int .i64 (ns t).kd, .int .i64 (ns t).nn] 47)) = X at a0 a1 a2 b0 b1 b2 RD OW7 BW7 hsw ⊢
        obtain ⟨p, hp⟩ : ∃ p, p = W.heap.size := ⟨_, rfl⟩
        obtain ⟨q, hq⟩ : ∃ q, q = W.heap.size + 1 := ⟨_, rfl⟩
        try simp only [← hp] at a0 a1 a2 b0 b1 b2 ⊢
        clear hp hq HRB
        go_upto_region 8 with fail
        have hpx := World.block_lt_of_cell? _ _ a0
        have hqx := World.block_lt_of_cell? _ _ b0
        simp only at hpx hqx
        refine wp_region_any (by kernel_rfl) ?_
        change wpAny _ _ _ _ _ _ _ (World.drew _)
        have a0 := keepc ((Below.refl _ _).drew) a0
        have a1 := keepc ((Below.refl _ _).drew) a1
        have a2 := keepc ((Below.refl _ _).drew) a2
        have b0 := keepc ((Below.refl _ _).drew) b0
        have b1 := keepc ((Below.refl _ _).drew) b1
        have b2 := keepc ((Below.refl _ _).drew) b2
        have RD : Hid (Rds w.heap.size nb noff n cap b off m cap2 k f t (ns f) (ns t) X.drew) := RD.out.below ((Below.refl _ _).drew)
        have OW7 : Hid (X.drew.ownsRow wa.heap.size 65 5 (.slice xo k xc) k (ils (zs (wrs ns ls)) (k * 5))) := own_below OW7.out ((Below.refl _ _).drew)
        have BW7 : Hid (Below wa.heap.size wa X.drew) := bstep BW7.out ((Below.refl _ _).drew)
        have hsz : X.drew.heap.size = X.heap.size := rfl
        rw [← hsz] at hpx hqx hsw
        clear hsz
        generalize X.drew = Y at a0 a1 a2 b0 b1 b2 RD OW7 BW7 hpx hqx hsw ⊢
        refine wpI_any (I := Rds w.heap.size nb noff n cap b off m cap2 k f t (ns f) (ns t)) _ _ _ _ ?_
        refine wpI_take (i := 0) (v := ?_) rfl (by kernel_rfl) (by kernel_rfl) (by kernel_rfl) (fun _ _ _ h => h) ⟨by rfl, ?_⟩ ?_
        rotate_left
        · intro X hI; obtain ⟨e0, e1, e2, e3, e4, e5, e6, e7, e8, e9⟩ := hI; go_simp; try go_bits
          try rw [if_pos (by omega)]
          try with_reducible rfl
        refine wpI_take (i := 1) (v := ?_) rfl (by kernel_rfl) (by kernel_rfl) (by kernel_rfl) (fun _ _ _ h => h) ⟨by rfl, ?_⟩ ?_
        rotate_left
        · intro X hI; obtain ⟨e0, e1, e2, e3, e4, e5, e6, e7, e8, e9⟩ := hI; go_simp; try go_bits
          try rw [if_pos (by omega)]
          try with_reducible rfl
        refine wpI_take (i := 2) (v := ?_) rfl (by kernel_rfl) (by kernel_rfl) (by kernel_rfl) (fun _ _ _ h => h) ⟨by rfl, ?_⟩ ?_
        rotate_left
        · intro X hI; obtain ⟨e0, e1, e2, e3, e4, e5, e6, e7, e8, e9⟩ := hI; go_simp; try go_bits
          try rw [if_pos (by omega)]
          try with_reducible rfl
        refine wpI_take (i := 3) (v := ?_) rfl (by kernel_rfl) (by kernel_rfl) (by kernel_rfl) (fun _ _ _ h => h) ⟨by rfl, ?_⟩ ?_
        rotate_left
        · intro X hI; obtain ⟨e0, e1, e2, e3, e4, e5, e6, e7, e8, e9⟩ := hI; go_simp; try go_bits
          try rw [if_pos (by omega)]
          try with_reducible rfl
        go_simp
        refine wpI_take (i := 4) (v := ?_) rfl (by kernel_rfl) (by kernel_rfl) (by kernel_rfl) (fun _ _ _ h => h) ⟨by rfl, ?_⟩ ?_
        rotate_left
        · intro X hI; obtain ⟨e0, e1, e2, e3, e4, e5, e6, e7, e8, e9⟩ := hI; go_simp; try go_bits
          try rw [if_pos (by omega)]
          try with_reducible rfl
        refine wpI_take (i := 5) (v := ?_) rfl (by kernel_rfl) (by kernel_rfl) (by kernel_rfl) (fun _ _ _ h => h) ⟨by rfl, ?_⟩ ?_
        rotate_left
        · intro X hI; obtain ⟨e0, e1, e2, e3, e4, e5, e6, e7, e8, e9⟩ := hI; go_simp; try go_bits
          try rw [if_pos (by omega)]
          try with_reducible rfl
        refine wpI_take (i := 6) (v := ?_) rfl (by kernel_rfl) (by kernel_rfl) (by kernel_rfl) (fun _ _ _ h => h) ⟨by rfl, ?_⟩ ?_
        rotate_left
        · intro X hI; obtain ⟨e0, e1, e2, e3, e4, e5, e6, e7, e8, e9⟩ := hI; go_simp; try go_bits
          try rw [if_pos (by omega)]
          try with_reducible rfl
        refine wpI_take (i := 7) (v := ?_) rfl (by kernel_rfl) (by kernel_rfl) (by kernel_rfl) (fun _ _ _ h => h) ⟨by rfl, ?_⟩ ?_
        rotate_left
        · intro X hI; obtain ⟨e0, e1, e2, e3, e4, e5, e6, e7, e8, e9⟩ := hI; go_simp; try go_bits
          try rw [if_pos (by omega)]
          try with_reducible rfl
        go_simp
        refine wpI_take (i := 8) (v := ?_) rfl (by kernel_rfl) (by kernel_rfl) (by kernel_rfl) (fun _ _ _ h => h) ⟨by rfl, ?_⟩ ?_
        rotate_left
        · intro X hI; obtain ⟨e0, e1, e2, e3, e4, e5, e6, e7, e8, e9⟩ := hI; go_simp; try go_bits
          try rw [if_pos (by omega)]
          try with_reducible rfl
        refine wpI_take (i := 9) (v := ?_) rfl (by kernel_rfl) (by kernel_rfl) (by kernel_rfl) (fun _ _ _ h => h) ⟨by rfl, ?_⟩ ?_
        rotate_left
        · intro X hI; obtain ⟨e0, e1, e2, e3, e4, e5, e6, e7, e8, e9⟩ := hI; go_simp; try go_bits
          try rw [if_pos (by omega)]
          try with_reducible rfl
        refine wpI_take (i := 10) (v := ?_) rfl (by kernel_rfl) (by kernel_rfl) (by kernel_rfl) (fun _ _ _ h => h) ⟨by rfl, ?_⟩ ?_
        rotate_left
        · intro X hI; obtain ⟨e0, e1, e2, e3, e4, e5, e6, e7, e8, e9⟩ := hI; go_simp; try go_bits
          try rw [if_pos (by omega)]
          try with_reducible rfl
        refine wpI_take (i := 11) (v := ?_) rfl (by kernel_rfl) (by kernel_rfl) (by kernel_rfl) (fun _ _ _ h => h) ⟨by rfl, ?_⟩ ?_
        rotate_left
        · intro X hI; obtain ⟨e0, e1, e2, e3, e4, e5, e6, e7, e8, e9⟩ := hI; go_simp; try go_bits
          try rw [if_pos (by omega)]
          try with_reducible rfl
        go_simp
        refine wpI_take (i := 12) (v := ?_) rfl (by kernel_rfl) (by kernel_rfl) (by kernel_rfl) (fun _ _ _ h => h) ⟨by rfl, ?_⟩ ?_
        rotate_left
        · intro X hI; obtain ⟨e0, e1, e2, e3, e4, e5, e6, e7, e8, e9⟩ := hI; go_simp; try go_bits
          try rw [if_pos (by omega)]
          try with_reducible rfl
        go_simp
        refine wpI_only (i := 13) rfl (by kernel_rfl) RD.out (by rfl) ?_
        intro K hK
        go_simp
        refine hK _ _ ?_
        refine wpI_only (i := 14) rfl (by kernel_rfl) (RD.out.below (below_one _ _)) (by rfl) ?_
        intro K hK
        go_simp
        refine hK _ _ ?_
        refine wpI_done (RD.out.below (below_one _ _)) (by kernel_rfl) ?_ _
        clear RD
        by_cases h6 : (ns f).kd = 6
        · have hb6 : ((ns f).kd == 6) = true := by simp [h6]
          have hb5 : ((ns f).kd == 5) = false := beq_false_of_ne (by omega)
          have h5 : ¬ (ns f).kd = 5 := by omega
          by_cases h7 : (ns t).kd = 7
          · have hb7 : ((ns t).kd == 7) = true := by simp [h7]
            have HNW : Hid (([.int .i64 (f : Int), .int .i64 (t : Int), .int .i64 (ns f).nn, .int .i64 (ns t).nn, .int .i64 0] : List Value) = [.int .i64 (wrs ns ls k).fr, .int .i64 (wrs ns ls k).to, .int .i64 (wrs ns ls k).gi, .int .i64 (wrs ns ls k).ta, .int .i64 (wrs ns ls k).ha]) := by
              show ([.int .i64 (f : Int), .int .i64 (t : Int), .int .i64 (ns f).nn, .int .i64 (ns t).nn, .int .i64 0] : List Value) = _
              rw [HWR.out]
              simp [wrf, HFT.out.1, HFT.out.2, h6, h7]
            go_upto_region 15 with fail
            have u0 : (Y.alloc (.cells #[.int .i64 (f : Int), .int .i64 (t : Int), .int .i64 (ns f).nn, .int .i64 (ns t).nn, .int .i64 0] 65)).cell? ⟨Y.heap.size, 0, none⟩ = some (.int .i64 (f : Int)) := by simp
            have u1 : (Y.alloc (.cells #[.int .i64 (f : Int), .int .i64 (t : Int), .int .i64 (ns f).nn, .int .i64 (ns t).nn, .int .i64 0] 65)).cell? ⟨Y.heap.size, 1, none⟩ = some (.int .i64 (t : Int)) := by simp
            have u2 : (Y.alloc (.cells #[.int .i64 (f : Int), .int .i64 (t : Int), .int .i64 (ns f).nn, .int .i64 (ns t).nn, .int .i64 0] 65)).cell? ⟨Y.heap.size, 2, none⟩ = some (.int .i64 ((ns f).nn)) := by simp
            have u3 : (Y.alloc (.cells #[.int .i64 (f : Int), .int .i64 (t : Int), .int .i64 (ns f).nn, .int .i64 (ns t).nn, .int .i64 0] 65)).cell? ⟨Y.heap.size, 3, none⟩ = some (.int .i64 ((ns t).nn)) := by simp
            have u4 : (Y.alloc (.cells #[.int .i64 (f : Int), .int .i64 (t : Int), .int .i64 (ns f).nn, .int .i64 (ns t).nn, .int .i64 0] 65)).cell? ⟨Y.heap.size, 4, none⟩ = some (.int .i64 (0)) := by simp
            have OWZ : Hid ((Y.alloc (.cells #[.int .i64 (f : Int), .int .i64 (t : Int), .int .i64 (ns f).nn, .int .i64 (ns t).nn, .int .i64 0] 65)).ownsRow wa.heap.size 65 5 (.slice xo k xc) k (ils (zs (wrs ns ls)) (k * 5))) := own_below OW7.out (below_one _ _)
            have BWZ : Hid (Below wa.heap.size wa (Y.alloc (.cells #[.int .i64 (f : Int), .int .i64 (t : Int), .int .i64 (ns f).nn, .int .i64 (ns t).nn, .int .i64 0] 65))) := bstep BW7.out (below_one _ _)
            clear a0 a1 a2 b0 b1 b2 OW7 BW7 hpx hqx
            generalize (Y.alloc (.cells #[.int .i64 (f : Int), .int .i64 (t : Int), .int .i64 (ns f).nn, .int .i64 (ns t).nn, .int .i64 0] 65)) = Z at u0 u1 u2 u3 u4 OWZ BWZ ⊢
            go_upto_region 6 with (at_builtin; refine wpList_app _ rfl _ _ 35 rfl wa.heap.size 65 i0 (.agg #[.int .i64 0, .int .i64 0, .int .i64 0, .int .i64 0, .int .i64 0]) 5 40 Tryd.underlying35 hi hz0 hz1 hz2 rfl (by decide) _ _ _ rfl (own_below OWZ.out (below_one _ _)) ⟨Z.heap.size, 0, none⟩ 1 1 [.int .i64 (f : Int), .int .i64 (t : Int), .int .i64 (ns f).nn, .int .i64 (ns t).nn, .int .i64 0] rfl rfl (five_new _ _ _ _ _ _ _) (by simp [Value.oneCell']) (by unfold maxLen; omega) (by omega) (bstep BWZ.out (below_one _ _)).size (by decide) ?_; intro v' w4 ho hgw hu; obtain ⟨oa, oc, rfl⟩ := own_op ho; rw [HNW.out, zs_more] at ho; have OG : Hid (w4.ownsRow wa.heap.size 65 5 (.slice oa (k + 1) oc) (k + 1) (ils (zs (wrs ns ls)) ((k + 1) * 5))) := ho; have BG : Hid (Below wa.heap.size wa w4) := (bstep BWZ.out (below_one _ _)).grown hgw (bstep BWZ.out (below_one _ _)).size (fun q hq => (World.ownsRow.lt OWZ.out q hq).1); clear hgw hu ho)
            go_wp2
            go_roundw
            case rel => exact ⟨k + 1, oa, oc, by go_num, by omega, rfl, OG.out, BG.out⟩
            case measure => simp [intOf]; omega
          by_cases h8 : (ns t).kd = 8
          · have hb7 : ((ns t).kd == 7) = false := beq_false_of_ne h7
            have hb8 : ((ns t).kd == 8) = true := by simp [h8]
            have HNW : Hid (([.int .i64 (f : Int), .int .i64 (t : Int), .int .i64 (ns f).nn, .int .i64 (ns t).nn, .int .i64 0] : List Value) = [.int .i64 (wrs ns ls k).fr, .int .i64 (wrs ns ls k).to, .int .i64 (wrs ns ls k).gi, .int .i64 (wrs ns ls k).ta, .int .i64 (wrs ns ls k).ha]) := by
              show ([.int .i64 (f : Int), .int .i64 (t : Int), .int .i64 (ns f).nn, .int .i64 (ns t).nn, .int .i64 0] : List Value) = _
              rw [HWR.out]
              simp [wrf, HFT.out.1, HFT.out.2, h6, h8]
            go_upto_region 15 with fail
            have u0 : (Y.alloc (.cells #[.int .i64 (f : Int), .int .i64 (t : Int), .int .i64 (ns f).nn, .int .i64 (ns t).nn, .int .i64 0] 65)).cell? ⟨Y.heap.size, 0, none⟩ = some (.int .i64 (f : Int)) := by simp
            have u1 : (Y.alloc (.cells #[.int .i64 (f : Int), .int .i64 (t : Int), .int .i64 (ns f).nn, .int .i64 (ns t).nn, .int .i64 0] 65)).cell? ⟨Y.heap.size, 1, none⟩ = some (.int .i64 (t : Int)) := by simp
            have u2 : (Y.alloc (.cells #[.int .i64 (f : Int), .int .i64 (t : Int), .int .i64 (ns f).nn, .int .i64 (ns t).nn, .int .i64 0] 65)).cell? ⟨Y.heap.size, 2, none⟩ = some (.int .i64 ((ns f).nn)) := by simp
            have u3 : (Y.alloc (.cells #[.int .i64 (f : Int), .int .i64 (t : Int), .int .i64 (ns f).nn, .int .i64 (ns t).nn, .int .i64 0] 65)).cell? ⟨Y.heap.size, 3, none⟩ = some (.int .i64 ((ns t).nn)) := by simp
            have u4 : (Y.alloc (.cells #[.int .i64 (f : Int), .int .i64 (t : Int), .int .i64 (ns f).nn, .int .i64 (ns t).nn, .int .i64 0] 65)).cell? ⟨Y.heap.size, 4, none⟩ = some (.int .i64 (0)) := by simp
            have OWZ : Hid ((Y.alloc (.cells #[.int .i64 (f : Int), .int .i64 (t : Int), .int .i64 (ns f).nn, .int .i64 (ns t).nn, .int .i64 0] 65)).ownsRow wa.heap.size 65 5 (.slice xo k xc) k (ils (zs (wrs ns ls)) (k * 5))) := own_below OW7.out (below_one _ _)
            have BWZ : Hid (Below wa.heap.size wa (Y.alloc (.cells #[.int .i64 (f : Int), .int .i64 (t : Int), .int .i64 (ns f).nn, .int .i64 (ns t).nn, .int .i64 0] 65))) := bstep BW7.out (below_one _ _)
            clear a0 a1 a2 b0 b1 b2 OW7 BW7 hpx hqx
            generalize (Y.alloc (.cells #[.int .i64 (f : Int), .int .i64 (t : Int), .int .i64 (ns f).nn, .int .i64 (ns t).nn, .int .i64 0] 65)) = Z at u0 u1 u2 u3 u4 OWZ BWZ ⊢
            go_upto_region 6 with (at_builtin; refine wpList_app _ rfl _ _ 35 rfl wa.heap.size 65 i0 (.agg #[.int .i64 0, .int .i64 0, .int .i64 0, .int .i64 0, .int .i64 0]) 5 40 Tryd.underlying35 hi hz0 hz1 hz2 rfl (by decide) _ _ _ rfl (own_below OWZ.out (below_one _ _)) ⟨Z.heap.size, 0, none⟩ 1 1 [.int .i64 (f : Int), .int .i64 (t : Int), .int .i64 (ns f).nn, .int .i64 (ns t).nn, .int .i64 0] rfl rfl (five_new _ _ _ _ _ _ _) (by simp [Value.oneCell']) (by unfold maxLen; omega) (by omega) (bstep BWZ.out (below_one _ _)).size (by decide) ?_; intro v' w4 ho hgw hu; obtain ⟨oa, oc, rfl⟩ := own_op ho; rw [HNW.out, zs_more] at ho; have OG : Hid (w4.ownsRow wa.heap.size 65 5 (.slice oa (k + 1) oc) (k + 1) (ils (zs (wrs ns ls)) ((k + 1) * 5))) := ho; have BG : Hid (Below wa.heap.size wa w4) := (bstep BWZ.out (below_one _ _)).grown hgw (bstep BWZ.out (below_one _ _)).size (fun q hq => (World.ownsRow.lt OWZ.out q hq).1); clear hgw hu ho)
            go_wp2
            go_roundw
            case rel => exact ⟨k + 1, oa, oc, by go_num, by omega, rfl, OG.out, BG.out⟩
            case measure => simp [intOf]; omega
          · have hb7 : ((ns t).kd == 7) = false := beq_false_of_ne h7
            have hb8 : ((ns t).kd == 8) = false := beq_false_of_ne h8
            have HNW : Hid (([.int .i64 (f : Int), .int .i64 (t : Int), .int .i64 (ns f).nn, .int .i64 1, .int .i64 0] : List Value) = [.int .i64 (wrs ns ls k).fr, .int .i64 (wrs ns ls k).to, .int .i64 (wrs ns ls k).gi, .int .i64 (wrs ns ls k).ta, .int .i64 (wrs ns ls k).ha]) := by
              show ([.int .i64 (f : Int), .int .i64 (t : Int), .int .i64 (ns f).nn, .int .i64 1, .int .i64 0] : List Value) = _
              rw [HWR.out]
              simp [wrf, HFT.out.1, HFT.out.2, h6, h7, h8]
            go_upto_region 15 with fail
            have u0 : (Y.alloc (.cells #[.int .i64 (f : Int), .int .i64 (t : Int), .int .i64 (ns f).nn, .int .i64 1, .int .i64 0] 65)).cell? ⟨Y.heap.size, 0, none⟩ = some (.int .i64 (f : Int)) := by simp
            have u1 : (Y.alloc (.cells #[.int .i64 (f : Int), .int .i64 (t : Int), .int .i64 (ns f).nn, .int .i64 1, .int .i64 0] 65)).cell? ⟨Y.heap.size, 1, none⟩ = some (.int .i64 (t : Int)) := by simp
            have u2 : (Y.alloc (.cells #[.int .i64 (f : Int), .int .i64 (t : Int), .int .i64 (ns f).nn, .int .i64 1, .int .i64 0] 65)).cell? ⟨Y.heap.size, 2, none⟩ = some (.int .i64 ((ns f).nn)) := by simp
            have u3 : (Y.alloc (.cells #[.int .i64 (f : Int), .int .i64 (t : Int), .int .i64 (ns f).nn, .int .i64 1, .int .i64 0] 65)).cell? ⟨Y.heap.size, 3, none⟩ = some (.int .i64 (1)) := by simp
            have u4 : (Y.alloc (.cells #[.int .i64 (f : Int), .int .i64 (t : Int), .int .i64 (ns f).nn, .int .i64 1, .int .i64 0] 65)).cell? ⟨Y.heap.size, 4, none⟩ = some (.int .i64 (0)) := by simp
            have OWZ : Hid ((Y.alloc (.cells #[.int .i64 (f : Int), .int .i64 (t : Int), .int .i64 (ns f).nn, .int .i64 1, .int .i64 0] 65)).ownsRow wa.heap.size 65 5 (.slice xo k xc) k (ils (zs (wrs ns ls)) (k * 5))) := own_below OW7.out (below_one _ _)
            have BWZ : Hid (Below wa.heap.size wa (Y.alloc (.cells #[.int .i64 (f : Int), .int .i64 (t : Int), .int .i64 (ns f).nn, .int .i64 1, .int .i64 0] 65))) := bstep BW7.out (below_one _ _)
            clear a0 a1 a2 b0 b1 b2 OW7 BW7 hpx hqx
            generalize (Y.alloc (.cells #[.int .i64 (f : Int), .int .i64 (t : Int), .int .i64 (ns f).nn, .int .i64 1, .int .i64 0] 65)) = Z at u0 u1 u2 u3 u4 OWZ BWZ ⊢
            go_upto_region 6 with (at_builtin; refine wpList_app _ rfl _ _ 35 rfl wa.heap.size 65 i0 (.agg #[.int .i64 0, .int .i64 0, .int .i64 0, .int .i64 0, .int .i64 0]) 5 40 Tryd.underlying35 hi hz0 hz1 hz2 rfl (by decide) _ _ _ rfl (own_below OWZ.out (below_one _ _)) ⟨Z.heap.size, 0, none⟩ 1 1 [.int .i64 (f : Int), .int .i64 (t : Int), .int .i64 (ns f).nn, .int .i64 1, .int .i64 0] rfl rfl (five_new _ _ _ _ _ _ _) (by simp [Value.oneCell']) (by unfold maxLen; omega) (by omega) (bstep BWZ.out (below_one _ _)).size (by decide) ?_; intro v' w4 ho hgw hu; obtain ⟨oa, oc, rfl⟩ := own_op ho; rw [HNW.out, zs_more] at ho; have OG : Hid (w4.ownsRow wa.heap.size 65 5 (.slice oa (k + 1) oc) (k + 1) (ils (zs (wrs ns ls)) ((k + 1) * 5))) := ho; have BG : Hid (Below wa.heap.size wa w4) := (bstep BWZ.out (below_one _ _)).grown hgw (bstep BWZ.out (below_one _ _)).size (fun q hq => (World.ownsRow.lt OWZ.out q hq).1); clear hgw hu ho)
            go_wp2
            go_roundw
            case rel => exact ⟨k + 1, oa, oc, by go_num, by omega, rfl, OG.out, BG.out⟩
            case measure => simp [intOf]; omega
        by_cases h5 : (ns f).kd = 5
        · have hb6 : ((ns f).kd == 6) = false := beq_false_of_ne h6
          have hb5 : ((ns f).kd == 5) = true := by simp [h5]
          by_cases h7 : (ns t).kd = 7
          · have hb7 : ((ns t).kd == 7) = true := by simp [h7]
            have HNW : Hid (([.int .i64 (f : Int), .int .i64 (t : Int), .int .i64 1, .int .i64 (ns t).nn, .int .i64 (ns f).nn] : List Value) = [.int .i64 (wrs ns ls k).fr, .int .i64 (wrs ns ls k).to, .int .i64 (wrs ns ls k).gi, .int .i64 (wrs ns ls k).ta, .int .i64 (wrs ns ls k).ha]) := by
              show ([.int .i64 (f : Int), .int .i64 (t : Int), .int .i64 1, .int .i64 (ns t).nn, .int .i64 (ns f).nn] : List Value) = _
              rw [HWR.out]
              simp [wrf, HFT.out.1, HFT.out.2, h5, h7]
            go_upto_region 15 with fail
            have u0 : (Y.alloc (.cells #[.int .i64 (f : Int), .int .i64 (t : Int), .int .i64 1, .int .i64 (ns t).nn, .int .i64 (ns f).nn] 65)).cell? ⟨Y.heap.size, 0, none⟩ = some (.int .i64 (f : Int)) := by simp
            have u1 : (Y.alloc (.cells #[.int .i64 (f : Int), .int .i64 (t : Int), .int .i64 1, .int .i64 (ns t).nn, .int .i64 (ns f).nn] 65)).cell? ⟨Y.heap.size, 1, none⟩ = some (.int .i64 (t : Int)) := by simp
            have u2 : (Y.alloc (.cells #[.int .i64 (f : Int), .int .i64 (t : Int), .int .i64 1, .int .i64 (ns t).nn, .int .i64 (ns f).nn] 65)).cell? ⟨Y.heap.size, 2, none⟩ = some (.int .i64 (1)) := by simp
            have u3 : (Y.alloc (.cells #[.int .i64 (f : Int), .int .i64 (t : Int), .int .i64 1, .int .i64 (ns t).nn, .int .i64 (ns f).nn] 65)).cell? ⟨Y.heap.size, 3, none⟩ = some (.int .i64 ((ns t).nn)) := by simp
            have u4 : (Y.alloc (.cells #[.int .i64 (f : Int), .int .i64 (t : Int), .int .i64 1, .int .i64 (ns t).nn, .int .i64 (ns f).nn] 65)).cell? ⟨Y.heap.size, 4, none⟩ = some (.int .i64 ((ns f).nn)) := by simp
            have OWZ : Hid ((Y.alloc (.cells #[.int .i64 (f : Int), .int .i64 (t : Int), .int .i64 1, .int .i64 (ns t).nn, .int .i64 (ns f).nn] 65)).ownsRow wa.heap.size 65 5 (.slice xo k xc) k (ils (zs (wrs ns ls)) (k * 5))) := own_below OW7.out (below_one _ _)
            have BWZ : Hid (Below wa.heap.size wa (Y.alloc (.cells #[.int .i64 (f : Int), .int .i64 (t : Int), .int .i64 1, .int .i64 (ns t).nn, .int .i64 (ns f).nn] 65))) := bstep BW7.out (below_one _ _)
            clear a0 a1 a2 b0 b1 b2 OW7 BW7 hpx hqx
            generalize (Y.alloc (.cells #[.int .i64 (f : Int), .int .i64 (t : Int), .int .i64 1, .int .i64 (ns t).nn, .int .i64 (ns f).nn] 65)) = Z at u0 u1 u2 u3 u4 OWZ BWZ ⊢
            go_upto_region 6 with (at_builtin; refine wpList_app _ rfl _ _ 35 rfl wa.heap.size 65 i0 (.agg #[.int .i64 0, .int .i64 0, .int .i64 0, .int .i64 0, .int .i64 0]) 5 40 Tryd.underlying35 hi hz0 hz1 hz2 rfl (by decide) _ _ _ rfl (own_below OWZ.out (below_one _ _)) ⟨Z.heap.size, 0, none⟩ 1 1 [.int .i64 (f : Int), .int .i64 (t : Int), .int .i64 1, .int .i64 (ns t).nn, .int .i64 (ns f).nn] rfl rfl (five_new _ _ _ _ _ _ _) (by simp [Value.oneCell']) (by unfold maxLen; omega) (by omega) (bstep BWZ.out (below_one _ _)).size (by decide) ?_; intro v' w4 ho hgw hu; obtain ⟨oa, oc, rfl⟩ := own_op ho; rw [HNW.out, zs_more] at ho; have OG : Hid (w4.ownsRow wa.heap.size 65 5 (.slice oa (k + 1) oc) (k + 1) (ils (zs (wrs ns ls)) ((k + 1) * 5))) := ho; have BG : Hid (Below wa.heap.size wa w4) := (bstep BWZ.out (below_one _ _)).grown hgw (bstep BWZ.out (below_one _ _)).size (fun q hq => (World.ownsRow.lt OWZ.out q hq).1); clear hgw hu ho)
            go_wp2
            go_roundw
            case rel => exact ⟨k + 1, oa, oc, by go_num, by omega, rfl, OG.out, BG.out⟩
            case measure => simp [intOf]; omega
          by_cases h8 : (ns t).kd = 8
          · have hb7 : ((ns t).kd == 7) = false := beq_false_of_ne h7
            have hb8 : ((ns t).kd == 8) = true := by simp [h8]
            have HNW : Hid (([.int .i64 (f : Int), .int .i64 (t : Int), .int .i64 1, .int .i64 (ns t).nn, .int .i64 (ns f).nn] : List Value) = [.int .i64 (wrs ns ls k).fr, .int .i64 (wrs ns ls k).to, .int .i64 (wrs ns ls k).gi, .int .i64 (wrs ns ls k).ta, .int .i64 (wrs ns ls k).ha]) := by
              show ([.int .i64 (f : Int), .int .i64 (t : Int), .int .i64 1, .int .i64 (ns t).nn, .int .i64 (ns f).nn] : List Value) = _
              rw [HWR.out]
              simp [wrf, HFT.out.1, HFT.out.2, h5, h8]
            go_upto_region 15 with fail
            have u0 : (Y.alloc (.cells #[.int .i64 (f : Int), .int .i64 (t : Int), .int .i64 1, .int .i64 (ns t).nn, .int .i64 (ns f).nn] 65)).cell? ⟨Y.heap.size, 0, none⟩ = some (.int .i64 (f : Int)) := by simp
            have u1 : (Y.alloc (.cells #[.int .i64 (f : Int), .int .i64 (t : Int), .int .i64 1, .int .i64 (ns t).nn, .int .i64 (ns f).nn] 65)).cell? ⟨Y.heap.size, 1, none⟩ = some (.int .i64 (t : Int)) := by simp
            have u2 : (Y.alloc (.cells #[.int .i64 (f : Int), .int .i64 (t : Int), .int .i64 1, .int .i64 (ns t).nn, .int .i64 (ns f).nn] 65)).cell? ⟨Y.heap.size, 2, none⟩ = some (.int .i64 (1)) := by simp
            have u3 : (Y.alloc (.cells #[.int .i64 (f : Int), .int .i64 (t : Int), .int .i64 1, .int .i64 (ns t).nn, .int .i64 (ns f).nn] 65)).cell? ⟨Y.heap.size, 3, none⟩ = some (.int .i64 ((ns t).nn)) := by simp
            have u4 : (Y.alloc (.cells #[.int .i64 (f : Int), .int .i64 (t : Int), .int .i64 1, .int .i64 (ns t).nn, .int .i64 (ns f).nn] 65)).cell? ⟨Y.heap.size, 4, none⟩ = some (.int .i64 ((ns f).nn)) := by simp
            have OWZ : Hid ((Y.alloc (.cells #[.int .i64 (f : Int), .int .i64 (t : Int), .int .i64 1, .int .i64 (ns t).nn, .int .i64 (ns f).nn] 65)).ownsRow wa.heap.size 65 5 (.slice xo k xc) k (ils (zs (wrs ns ls)) (k * 5))) := own_below OW7.out (below_one _ _)
            have BWZ : Hid (Below wa.heap.size wa (Y.alloc (.cells #[.int .i64 (f : Int), .int .i64 (t : Int), .int .i64 1, .int .i64 (ns t).nn, .int .i64 (ns f).nn] 65))) := bstep BW7.out (below_one _ _)
            clear a0 a1 a2 b0 b1 b2 OW7 BW7 hpx hqx
            generalize (Y.alloc (.cells #[.int .i64 (f : Int), .int .i64 (t : Int), .int .i64 1, .int .i64 (ns t).nn, .int .i64 (ns f).nn] 65)) = Z at u0 u1 u2 u3 u4 OWZ BWZ ⊢
            go_upto_region 6 with (at_builtin; refine wpList_app _ rfl _ _ 35 rfl wa.heap.size 65 i0 (.agg #[.int .i64 0, .int .i64 0, .int .i64 0, .int .i64 0, .int .i64 0]) 5 40 Tryd.underlying35 hi hz0 hz1 hz2 rfl (by decide) _ _ _ rfl (own_below OWZ.out (below_one _ _)) ⟨Z.heap.size, 0, none⟩ 1 1 [.int .i64 (f : Int), .int .i64 (t : Int), .int .i64 1, .int .i64 (ns t).nn, .int .i64 (ns f).nn] rfl rfl (five_new _ _ _ _ _ _ _) (by simp [Value.oneCell']) (by unfold maxLen; omega) (by omega) (bstep BWZ.out (below_one _ _)).size (by decide) ?_; intro v' w4 ho hgw hu; obtain ⟨oa, oc, rfl⟩ := own_op ho; rw [HNW.out, zs_more] at ho; have OG : Hid (w4.ownsRow wa.heap.size 65 5 (.slice oa (k + 1) oc) (k + 1) (ils (zs (wrs ns ls)) ((k + 1) * 5))) := ho; have BG : Hid (Below wa.heap.size wa w4) := (bstep BWZ.out (below_one _ _)).grown hgw (bstep BWZ.out (below_one _ _)).size (fun q hq => (World.ownsRow.lt OWZ.out q hq).1); clear hgw hu ho)
            go_wp2
            go_roundw
            case rel => exact ⟨k + 1, oa, oc, by go_num, by omega, rfl, OG.out, BG.out⟩
            case measure => simp [intOf]; omega
          · have hb7 : ((ns t).kd == 7) = false := beq_false_of_ne h7
            have hb8 : ((ns t).kd == 8) = false := beq_false_of_ne h8
            have HNW : Hid (([.int .i64 (f : Int), .int .i64 (t : Int), .int .i64 1, .int .i64 1, .int .i64 (ns f).nn] : List Value) = [.int .i64 (wrs ns ls k).fr, .int .i64 (wrs ns ls k).to, .int .i64 (wrs ns ls k).gi, .int .i64 (wrs ns ls k).ta, .int .i64 (wrs ns ls k).ha]) := by
              show ([.int .i64 (f : Int), .int .i64 (t : Int), .int .i64 1, .int .i64 1, .int .i64 (ns f).nn] : List Value) = _
              rw [HWR.out]
              simp [wrf, HFT.out.1, HFT.out.2, h5, h7, h8]
            go_upto_region 15 with fail
            have u0 : (Y.alloc (.cells #[.int .i64 (f : Int), .int .i64 (t : Int), .int .i64 1, .int .i64 1, .int .i64 (ns f).nn] 65)).cell? ⟨Y.heap.size, 0, none⟩ = some (.int .i64 (f : Int)) := by simp
            have u1 : (Y.alloc (.cells #[.int .i64 (f : Int), .int .i64 (t : Int), .int .i64 1, .int .i64 1, .int .i64 (ns f).nn] 65)).cell? ⟨Y.heap.size, 1, none⟩ = some (.int .i64 (t : Int)) := by simp
            have u2 : (Y.alloc (.cells #[.int .i64 (f : Int), .int .i64 (t : Int), .int .i64 1, .int .i64 1, .int .i64 (ns f).nn] 65)).cell? ⟨Y.heap.size, 2, none⟩ = some (.int .i64 (1)) := by simp
            have u3 : (Y.alloc (.cells #[.int .i64 (f : Int), .int .i64 (t : Int), .int .i64 1, .int .i64 1, .int .i64 (ns f).nn] 65)).cell? ⟨Y.heap.size, 3, none⟩ = some (.int .i64 (1)) := by simp
            have u4 : (Y.alloc (.cells #[.int .i64 (f : Int), .int .i64 (t : Int), .int .i64 1, .int .i64 1, .int .i64 (ns f).nn] 65)).cell? ⟨Y.heap.size, 4, none⟩ = some (.int .i64 ((ns f).nn)) := by simp
            have OWZ : Hid ((Y.alloc (.cells #[.int .i64 (f : Int), .int .i64 (t : Int), .int .i64 1, .int .i64 1, .int .i64 (ns f).nn] 65)).ownsRow wa.heap.size 65 5 (.slice xo k xc) k (ils (zs (wrs ns ls)) (k * 5))) := own_below OW7.out (below_one _ _)
            have BWZ : Hid (Below wa.heap.size wa (Y.alloc (.cells #[.int .i64 (f : Int), .int .i64 (t : Int), .int .i64 1, .int .i64 1, .int .i64 (ns f).nn] 65))) := bstep BW7.out (below_one _ _)
            clear a0 a1 a2 b0 b1 b2 OW7 BW7 hpx hqx
            generalize (Y.alloc (.cells #[.int .i64 (f : Int), .int .i64 (t : Int), .int .i64 1, .int .i64 1, .int .i64 (ns f).nn] 65)) = Z at u0 u1 u2 u3 u4 OWZ BWZ ⊢
            go_upto_region 6 with (at_builtin; refine wpList_app _ rfl _ _ 35 rfl wa.heap.size 65 i0 (.agg #[.int .i64 0, .int .i64 0, .int .i64 0, .int .i64 0, .int .i64 0]) 5 40 Tryd.underlying35 hi hz0 hz1 hz2 rfl (by decide) _ _ _ rfl (own_below OWZ.out (below_one _ _)) ⟨Z.heap.size, 0, none⟩ 1 1 [.int .i64 (f : Int), .int .i64 (t : Int), .int .i64 1, .int .i64 1, .int .i64 (ns f).nn] rfl rfl (five_new _ _ _ _ _ _ _) (by simp [Value.oneCell']) (by unfold maxLen; omega) (by omega) (bstep BWZ.out (below_one _ _)).size (by decide) ?_; intro v' w4 ho hgw hu; obtain ⟨oa, oc, rfl⟩ := own_op ho; rw [HNW.out, zs_more] at ho; have OG : Hid (w4.ownsRow wa.heap.size 65 5 (.slice oa (k + 1) oc) (k + 1) (ils (zs (wrs ns ls)) ((k + 1) * 5))) := ho; have BG : Hid (Below wa.heap.size wa w4) := (bstep BWZ.out (below_one _ _)).grown hgw (bstep BWZ.out (below_one _ _)).size (fun q hq => (World.ownsRow.lt OWZ.out q hq).1); clear hgw hu ho)
            go_wp2
            go_roundw
            case rel => exact ⟨k + 1, oa, oc, by go_num, by omega, rfl, OG.out, BG.out⟩
            case measure => simp [intOf]; omega
        · have hb6 : ((ns f).kd == 6) = false := beq_false_of_ne h6
          have hb5 : ((ns f).kd == 5) = false := beq_false_of_ne h5
          by_cases h7 : (ns t).kd = 7
          · have hb7 : ((ns t).kd == 7) = true := by simp [h7]
            have HNW : Hid (([.int .i64 (f : Int), .int .i64 (t : Int), .int .i64 1, .int .i64 (ns t).nn, .int .i64 0] : List Value) = [.int .i64 (wrs ns ls k).fr, .int .i64 (wrs ns ls k).to, .int .i64 (wrs ns ls k).gi, .int .i64 (wrs ns ls k).ta, .int .i64 (wrs ns ls k).ha]) := by
              show ([.int .i64 (f : Int), .int .i64 (t : Int), .int .i64 1, .int .i64 (ns t).nn, .int .i64 0] : List Value) = _
              rw [HWR.out]
              simp [wrf, HFT.out.1, HFT.out.2, h6, h5, h7]
            go_upto_region 15 with fail
            have u0 : (Y.alloc (.cells #[.int .i64 (f : Int), .int .i64 (t : Int), .int .i64 1, .int .i64 (ns t).nn, .int .i64 0] 65)).cell? ⟨Y.heap.size, 0, none⟩ = some (.int .i64 (f : Int)) := by simp
            have u1 : (Y.alloc (.cells #[.int .i64 (f : Int), .int .i64 (t : Int), .int .i64 1, .int .i64 (ns t).nn, .int .i64 0] 65)).cell? ⟨Y.heap.size, 1, none⟩ = some (.int .i64 (t : Int)) := by simp
            have u2 : (Y.alloc (.cells #[.int .i64 (f : Int), .int .i64 (t : Int), .int .i64 1, .int .i64 (ns t).nn, .int .i64 0] 65)).cell? ⟨Y.heap.size, 2, none⟩ = some (.int .i64 (1)) := by simp
            have u3 : (Y.alloc (.cells #[.int .i64 (f : Int), .int .i64 (t : Int), .int .i64 1, .int .i64 (ns t).nn, .int .i64 0] 65)).cell? ⟨Y.heap.size, 3, none⟩ = some (.int .i64 ((ns t).nn)) := by simp
            have u4 : (Y.alloc (.cells #[.int .i64 (f : Int), .int .i64 (t : Int), .int .i64 1, .int .i64 (ns t).nn, .int .i64 0] 65)).cell? ⟨Y.heap.size, 4, none⟩ = some (.int .i64 (0)) := by simp
            have OWZ : Hid ((Y.alloc (.cells #[.int .i64 (f : Int), .int .i64 (t : Int), .int .i64 1, .int .i64 (ns t).nn, .int .i64 0] 65)).ownsRow wa.heap.size 65 5 (.slice xo k xc) k (ils (zs (wrs ns ls)) (k * 5))) := own_below OW7.out (below_one _ _)
            have BWZ : Hid (Below wa.heap.size wa (Y.alloc (.cells #[.int .i64 (f : Int), .int .i64 (t : Int), .int .i64 1, .int .i64 (ns t).nn, .int .i64 0] 65))) := bstep BW7.out (below_one _ _)
            clear a0 a1 a2 b0 b1 b2 OW7 BW7 hpx hqx
            generalize (Y.alloc (.cells #[.int .i64 (f : Int), .int .i64 (t : Int), .int .i64 1, .int .i64 (ns t).nn, .int .i64 0] 65)) = Z at u0 u1 u2 u3 u4 OWZ BWZ ⊢
            go_upto_region 6 with (at_builtin; refine wpList_app _ rfl _ _ 35 rfl wa.heap.size 65 i0 (.agg #[.int .i64 0, .int .i64 0, .int .i64 0, .int .i64 0, .int .i64 0]) 5 40 Tryd.underlying35 hi hz0 hz1 hz2 rfl (by decide) _ _ _ rfl (own_below OWZ.out (below_one _ _)) ⟨Z.heap.size, 0, none⟩ 1 1 [.int .i64 (f : Int), .int .i64 (t : Int), .int .i64 1, .int .i64 (ns t).nn, .int .i64 0] rfl rfl (five_new _ _ _ _ _ _ _) (by simp [Value.oneCell']) (by unfold maxLen; omega) (by omega) (bstep BWZ.out (below_one _ _)).size (by decide) ?_; intro v' w4 ho hgw hu; obtain ⟨oa, oc, rfl⟩ := own_op ho; rw [HNW.out, zs_more] at ho; have OG : Hid (w4.ownsRow wa.heap.size 65 5 (.slice oa (k + 1) oc) (k + 1) (ils (zs (wrs ns ls)) ((k + 1) * 5))) := ho; have BG : Hid (Below wa.heap.size wa w4) := (bstep BWZ.out (below_one _ _)).grown hgw (bstep BWZ.out (below_one _ _)).size (fun q hq => (World.ownsRow.lt OWZ.out q hq).1); clear hgw hu ho)
            go_wp2
            go_roundw
            case rel => exact ⟨k + 1, oa, oc, by go_num, by omega, rfl, OG.out, BG.out⟩
            case measure => simp [intOf]; omega
          by_cases h8 : (ns t).kd = 8
          · have hb7 : ((ns t).kd == 7) = false := beq_false_of_ne h7
            have hb8 : ((ns t).kd == 8) = true := by simp [h8]
            have HNW : Hid (([.int .i64 (f : Int), .int .i64 (t : Int), .int .i64 1, .int .i64 (ns t).nn, .int .i64 0] : List Value) = [.int .i64 (wrs ns ls k).fr, .int .i64 (wrs ns ls k).to, .int .i64 (wrs ns ls k).gi, .int .i64 (wrs ns ls k).ta, .int .i64 (wrs ns ls k).ha]) := by
              show ([.int .i64 (f : Int), .int .i64 (t : Int), .int .i64 1, .int .i64 (ns t).nn, .int .i64 0] : List Value) = _
              rw [HWR.out]
              simp [wrf, HFT.out.1, HFT.out.2, h6, h5, h8]
            go_upto_region 15 with fail
            have u0 : (Y.alloc (.cells #[.int .i64 (f : Int), .int .i64 (t : Int), .int .i64 1, .int .i64 (ns t).nn, .int .i64 0] 65)).cell? ⟨Y.heap.size, 0, none⟩ = some (.int .i64 (f : Int)) := by simp
            have u1 : (Y.alloc (.cells #[.int .i64 (f : Int), .int .i64 (t : Int), .int .i64 1, .int .i64 (ns t).nn, .int .i64 0] 65)).cell? ⟨Y.heap.size, 1, none⟩ = some (.int .i64 (t : Int)) := by simp
            have u2 : (Y.alloc (.cells #[.int .i64 (f : Int), .int .i64 (t : Int), .int .i64 1, .int .i64 (ns t).nn, .int .i64 0] 65)).cell? ⟨Y.heap.size, 2, none⟩ = some (.int .i64 (1)) := by simp
            have u3 : (Y.alloc (.cells #[.int .i64 (f : Int), .int .i64 (t : Int), .int .i64 1, .int .i64 (ns t).nn, .int .i64 0] 65)).cell? ⟨Y.heap.size, 3, none⟩ = some (.int .i64 ((ns t).nn)) := by simp
            have u4 : (Y.alloc (.cells #[.int .i64 (f : Int), .int .i64 (t : Int), .int .i64 1, .int .i64 (ns t).nn, .int .i64 0] 65)).cell? ⟨Y.heap.size, 4, none⟩ = some (.int .i64 (0)) := by simp
            have OWZ : Hid ((Y.alloc (.cells #[.int .i64 (f : Int), .int .i64 (t : Int), .int .i64 1, .int .i64 (ns t).nn, .int .i64 0] 65)).ownsRow wa.heap.size 65 5 (.slice xo k xc) k (ils (zs (wrs ns ls)) (k * 5))) := own_below OW7.out (below_one _ _)
            have BWZ : Hid (Below wa.heap.size wa (Y.alloc (.cells #[.int .i64 (f : Int), .int .i64 (t : Int), .int .i64 1, .int .i64 (ns t).nn, .int .i64 0] 65))) := bstep BW7.out (below_one _ _)
            clear a0 a1 a2 b0 b1 b2 OW7 BW7 hpx hqx
            generalize (Y.alloc (.cells #[.int .i64 (f : Int), .int .i64 (t : Int), .int .i64 1, .int .i64 (ns t).nn, .int .i64 0] 65)) = Z at u0 u1 u2 u3 u4 OWZ BWZ ⊢
            go_upto_region 6 with (at_builtin; refine wpList_app _ rfl _ _ 35 rfl wa.heap.size 65 i0 (.agg #[.int .i64 0, .int .i64 0, .int .i64 0, .int .i64 0, .int .i64 0]) 5 40 Tryd.underlying35 hi hz0 hz1 hz2 rfl (by decide) _ _ _ rfl (own_below OWZ.out (below_one _ _)) ⟨Z.heap.size, 0, none⟩ 1 1 [.int .i64 (f : Int), .int .i64 (t : Int), .int .i64 1, .int .i64 (ns t).nn, .int .i64 0] rfl rfl (five_new _ _ _ _ _ _ _) (by simp [Value.oneCell']) (by unfold maxLen; omega) (by omega) (bstep BWZ.out (below_one _ _)).size (by decide) ?_; intro v' w4 ho hgw hu; obtain ⟨oa, oc, rfl⟩ := own_op ho; rw [HNW.out, zs_more] at ho; have OG : Hid (w4.ownsRow wa.heap.size 65 5 (.slice oa (k + 1) oc) (k + 1) (ils (zs (wrs ns ls)) ((k + 1) * 5))) := ho; have BG : Hid (Below wa.heap.size wa w4) := (bstep BWZ.out (below_one _ _)).grown hgw (bstep BWZ.out (below_one _ _)).size (fun q hq => (World.ownsRow.lt OWZ.out q hq).1); clear hgw hu ho)
            go_wp2
            go_roundw
            case rel => exact ⟨k + 1, oa, oc, by go_num, by omega, rfl, OG.out, BG.out⟩
            case measure => simp [intOf]; omega
          · have hb7 : ((ns t).kd == 7) = false := beq_false_of_ne h7
            have hb8 : ((ns t).kd == 8) = false := beq_false_of_ne h8
            have HNW : Hid (([.int .i64 (f : Int), .int .i64 (t : Int), .int .i64 1, .int .i64 1, .int .i64 0] : List Value) = [.int .i64 (wrs ns ls k).fr, .int .i64 (wrs ns ls k).to, .int .i64 (wrs ns ls k).gi, .int .i64 (wrs ns ls k).ta, .int .i64 (wrs ns ls k).ha]) := by
              show ([.int .i64 (f : Int), .int .i64 (t : Int), .int .i64 1, .int .i64 1, .int .i64 0] : List Value) = _
              rw [HWR.out]
              simp [wrf, HFT.out.1, HFT.out.2, h6, h5, h7, h8]
            go_upto_region 15 with fail
            have u0 : (Y.alloc (.cells #[.int .i64 (f : Int), .int .i64 (t : Int), .int .i64 1, .int .i64 1, .int .i64 0] 65)).cell? ⟨Y.heap.size, 0, none⟩ = some (.int .i64 (f : Int)) := by simp
            have u1 : (Y.alloc (.cells #[.int .i64 (f : Int), .int .i64 (t : Int), .int .i64 1, .int .i64 1, .int .i64 0] 65)).cell? ⟨Y.heap.size, 1, none⟩ = some (.int .i64 (t : Int)) := by simp
            have u2 : (Y.alloc (.cells #[.int .i64 (f : Int), .int .i64 (t : Int), .int .i64 1, .int .i64 1, .int .i64 0] 65)).cell? ⟨Y.heap.size, 2, none⟩ = some (.int .i64 (1)) := by simp
            have u3 : (Y.alloc (.cells #[.int .i64 (f : Int), .int .i64 (t : Int), .int .i64 1, .int .i64 1, .int .i64 0] 65)).cell? ⟨Y.heap.size, 3, none⟩ = some (.int .i64 (1)) := by simp
            have u4 : (Y.alloc (.cells #[.int .i64 (f : Int), .int .i64 (t : Int), .int .i64 1, .int .i64 1, .int .i64 0] 65)).cell? ⟨Y.heap.size, 4, none⟩ = some (.int .i64 (0)) := by simp
            have OWZ : Hid ((Y.alloc (.cells #[.int .i64 (f : Int), .int .i64 (t : Int), .int .i64 1, .int .i64 1, .int .i64 0] 65)).ownsRow wa.heap.size 65 5 (.slice xo k xc) k (ils (zs (wrs ns ls)) (k * 5))) := own_below OW7.out (below_one _ _)
            have BWZ : Hid (Below wa.heap.size wa (Y.alloc (.cells #[.int .i64 (f : Int), .int .i64 (t : Int), .int .i64 1, .int .i64 1, .int .i64 0] 65))) := bstep BW7.out (below_one _ _)
            clear a0 a1 a2 b0 b1 b2 OW7 BW7 hpx hqx
            generalize (Y.alloc (.cells #[.int .i64 (f : Int), .int .i64 (t : Int), .int .i64 1, .int .i64 1, .int .i64 0] 65)) = Z at u0 u1 u2 u3 u4 OWZ BWZ ⊢
            go_upto_region 6 with (at_builtin; refine wpList_app _ rfl _ _ 35 rfl wa.heap.size 65 i0 (.agg #[.int .i64 0, .int .i64 0, .int .i64 0, .int .i64 0, .int .i64 0]) 5 40 Tryd.underlying35 hi hz0 hz1 hz2 rfl (by decide) _ _ _ rfl (own_below OWZ.out (below_one _ _)) ⟨Z.heap.size, 0, none⟩ 1 1 [.int .i64 (f : Int), .int .i64 (t : Int), .int .i64 1, .int .i64 1, .int .i64 0] rfl rfl (five_new _ _ _ _ _ _ _) (by simp [Value.oneCell']) (by unfold maxLen; omega) (by omega) (bstep BWZ.out (below_one _ _)).size (by decide) ?_; intro v' w4 ho hgw hu; obtain ⟨oa, oc, rfl⟩ := own_op ho; rw [HNW.out, zs_more] at ho; have OG : Hid (w4.ownsRow wa.heap.size 65 5 (.slice oa (k + 1) oc) (k + 1) (ils (zs (wrs ns ls)) ((k + 1) * 5))) := ho; have BG : Hid (Below wa.heap.size wa w4) := (bstep BWZ.out (below_one _ _)).grown hgw (bstep BWZ.out (below_one _ _)).size (fun q hq => (World.ownsRow.lt OWZ.out q hq).1); clear hgw hu ho)
            go_wp2
            go_roundw
            case rel => exact ⟨k + 1, oa, oc, by go_num, by omega, rfl, OG.out, BG.out⟩
            case measure => simp [intOf]; omega
      · intro K hK
        go_simp
        refine hK _ _ ?_
        refine wpI_only (i := 20) rfl (by kernel_rfl) (RD.out.below (below_one _ _)) (by rfl) ?_
        intro K hK
        go_simp
        refine hK _ _ ?_
        refine wpI_only (i := 22) rfl (by kernel_rfl) (RD.out.below (bstep (below_one _ _) (below_one _ _))) (by rfl) ?_
        intro K hK
        go_simp
        refine hK _ _ ?_
        refine wpI_only (i := 23) rfl (by kernel_rfl) (RD.out.below (bstep (below_one _ _) (below_one _ _))) (by rfl) ?_
        intro K hK
        go_simp
        refine hK _ _ ?_
        refine wpI_done (RD.out.below (bstep (below_one _ _) (below_one _ _))) (by kernel_rfl) ?_ _
        have BX : Below W.heap.size W ((W.alloc (.cells #[.string (ns t).nm, .int .i64 (ns t).kd, .int .i64 (ns t).nn] 47)).alloc (.cells #[.string (ns f).nm, .int .i64 (ns f).kd, .int .i64 (ns f).nn] 47)) := bstep (below_one _ _) (below_one _ _)
        have a0 : ((W.alloc (.cells #[.string (ns t).nm, .int .i64 (ns t).kd, .int .i64 (ns t).nn] 47)).alloc (.cells #[.string (ns f).nm, .int .i64 (ns f).kd, .int .i64 (ns f).nn] 47)).cell? ⟨W.heap.size + 1, 0, none⟩ = some (.string (ns f).nm) := by simp
        have a1 : ((W.alloc (.cells #[.string (ns t).nm, .int .i64 (ns t).kd, .int .i64 (ns t).nn] 47)).alloc (.cells #[.string (ns f).nm, .int .i64 (ns f).kd, .int .i64 (ns f).nn] 47)).cell? ⟨W.heap.size + 1, 1, none⟩ = some (.int .i64 (ns f).kd) := by simp
        have a2 : ((W.alloc (.cells #[.string (ns t).nm, .int .i64 (ns t).kd, .int .i64 (ns t).nn] 47)).alloc (.cells #[.string (ns f).nm, .int .i64 (ns f).kd, .int .i64 (ns f).nn] 47)).cell? ⟨W.heap.size + 1, 2, none⟩ = some (.int .i64 (ns f).nn) := by simp
        have b0 : ((W.alloc (.cells #[.string (ns t).nm, .int .i64 (ns t).kd, .int .i64 (ns t).nn] 47)).alloc (.cells #[.string (ns f).nm, .int .i64 (ns f).kd, .int .i64 (ns f).nn] 47)).cell? ⟨W.heap.size, 0, none⟩ = some (.string (ns t).nm) := by simp
        have b1 : ((W.alloc (.cells #[.string (ns t).nm, .int .i64 (ns t).kd, .int .i64 (ns t).nn] 47)).alloc (.cells #[.string (ns f).nm, .int .i64 (ns f).kd, .int .i64 (ns f).nn] 47)).cell? ⟨W.heap.size, 1, none⟩ = some (.int .i64 (ns t).kd) := by simp
        have b2 : ((W.alloc (.cells #[.string (ns t).nm, .int .i64 (ns t).kd, .int .i64 (ns t).nn] 47)).alloc (.cells #[.string (ns f).nm, .int .i64 (ns f).kd, .int .i64 (ns f).nn] 47)).cell? ⟨W.heap.size, 2, none⟩ = some (.int .i64 (ns t).nn) := by simp
        have RD := RD.out.below BX
        have RD : Hid (Rds w.heap.size nb noff n cap b off m cap2 k f t (ns f) (ns t) ((W.alloc (.cells #[.string (ns t).nm, .int .i64 (ns t).kd, .int .i64 (ns t).nn] 47)).alloc (.cells #[.string (ns f).nm, .int .i64 (ns f).kd, .int .i64 (ns f).nn] 47))) := RD
        have OW7 : Hid (((W.alloc (.cells #[.string (ns t).nm, .int .i64 (ns t).kd, .int .i64 (ns t).nn] 47)).alloc (.cells #[.string (ns f).nm, .int .i64 (ns f).kd, .int .i64 (ns f).nn] 47)).ownsRow wa.heap.size 65 5 (.slice xo k xc) k (ils (zs (wrs ns ls)) (k * 5))) := own_below OW7.out BX
        have BW7 : Hid (Below wa.heap.size wa ((W.alloc (.cells #[.string (ns t).nm, .int .i64 (ns t).kd, .int .i64 (ns t).nn] 47)).alloc (.cells #[.string (ns f).nm, .int .i64 (ns f).kd, .int .i64 (ns f).nn] 47))) := bstep BW7.out BX
        have hsw : w.heap.size < ((W.alloc (.cells #[.string (ns t).nm, .int .i64 (ns t).kd, .int .i64 (ns t).nn] 47)).alloc (.cells #[.string (ns f).nm, .int .i64 (ns f).kd, .int .i64 (ns f).nn] 47)).heap.size := Nat.lt_of_lt_of_le hsw BX.size
        clear BX
        generalize ((W.alloc (.cells #[.string (ns t).nm, .int .i64 (ns t).kd, .int .i64 (ns t).nn] 47)).alloc (.cells #[.string (ns f).nm, .int .i64 (ns f).kd, .int .i64 (ns f).nn] 47)) = X at a0 a1 a2 b0 b1 b2 RD OW7 BW7 hsw ⊢
        obtain ⟨p, hp⟩ : ∃ p, p = W.heap.size + 1 := ⟨_, rfl⟩
        obtain ⟨q, hq⟩ : ∃ q, q = W.heap.size := ⟨_, rfl⟩
        try simp only [← hq] at a0 a1 a2 b0 b1 b2 ⊢
        clear hp hq HRB
        go_upto_region 8 with fail
        have hpx := World.block_lt_of_cell? _ _ a0
        have hqx := World.block_lt_of_cell? _ _ b0
        simp only at hpx hqx
        refine wp_region_any (by kernel_rfl) ?_
        change wpAny _ _ _ _ _ _ _ (World.drew _)
        have a0 := keepc ((Below.refl _ _).drew) a0
        have a1 := keepc ((Below.refl _ _).drew) a1
        have a2 := keepc ((Below.refl _ _).drew) a2
        have b0 := keepc ((Below.refl _ _).drew) b0
        have b1 := keepc ((Below.refl _ _).drew) b1
        have b2 := keepc ((Below.refl _ _).drew) b2
        have RD : Hid (Rds w.heap.size nb noff n cap b off m cap2 k f t (ns f) (ns t) X.drew) := RD.out.below ((Below.refl _ _).drew)
        have OW7 : Hid (X.drew.ownsRow wa.heap.size 65 5 (.slice xo k xc) k (ils (zs (wrs ns ls)) (k * 5))) := own_below OW7.out ((Below.refl _ _).drew)
        have BW7 : Hid (Below wa.heap.size wa X.drew) := bstep BW7.out ((Below.refl _ _).drew)
        have hsz : X.drew.heap.size = X.heap.size := rfl
        rw [← hsz] at hpx hqx hsw
        clear hsz
        generalize X.drew = Y at a0 a1 a2 b0 b1 b2 RD OW7 BW7 hpx hqx hsw ⊢
        refine wpI_any (I := Rds w.heap.size nb noff n cap b off m cap2 k f t (ns f) (ns t)) _ _ _ _ ?_
        refine wpI_take (i := 0) (v := ?_) rfl (by kernel_rfl) (by kernel_rfl) (by kernel_rfl) (fun _ _ _ h => h) ⟨by rfl, ?_⟩ ?_
        rotate_left
        · intro X hI; obtain ⟨e0, e1, e2, e3, e4, e5, e6, e7, e8, e9⟩ := hI; go_simp; try go_bits
          try rw [if_pos (by omega)]
          try with_reducible rfl
        refine wpI_take (i := 1) (v := ?_) rfl (by kernel_rfl) (by kernel_rfl) (by kernel_rfl) (fun _ _ _ h => h) ⟨by rfl, ?_⟩ ?_
        rotate_left
        · intro X hI; obtain ⟨e0, e1, e2, e3, e4, e5, e6, e7, e8, e9⟩ := hI; go_simp; try go_bits
          try rw [if_pos (by omega)]
          try with_reducible rfl
        refine wpI_take (i := 2) (v := ?_) rfl (by kernel_rfl) (by kernel_rfl) (by kernel_rfl) (fun _ _ _ h => h) ⟨by rfl, ?_⟩ ?_
        rotate_left
        · intro X hI; obtain ⟨e0, e1, e2, e3, e4, e5, e6, e7, e8, e9⟩ := hI; go_simp; try go_bits
          try rw [if_pos (by omega)]
          try with_reducible rfl
        refine wpI_take (i := 3) (v := ?_) rfl (by kernel_rfl) (by kernel_rfl) (by kernel_rfl) (fun _ _ _ h => h) ⟨by rfl, ?_⟩ ?_
        rotate_left
        · intro X hI; obtain ⟨e0, e1, e2, e3, e4, e5, e6, e7, e8, e9⟩ := hI; go_simp; try go_bits
          try rw [if_pos (by omega)]
          try with_reducible rfl
        go_simp
        refine wpI_take (i := 4) (v := ?_) rfl (by kernel_rfl) (by kernel_rfl) (by kernel_rfl) (fun _ _ _ h => h) ⟨by rfl, ?_⟩ ?_
        rotate_left
        · intro X hI; obtain ⟨e0, e1, e2, e3, e4, e5, e6, e7, e8, e9⟩ := hI; go_simp; try go_bits
          try rw [if_pos (by omega)]
          try with_reducible rfl
        refine wpI_take (i := 5) (v := ?_) rfl (by kernel_rfl) (by kernel_rfl) (by kernel_rfl) (fun _ _ _ h => h) ⟨by rfl, ?_⟩ ?_
        rotate_left
        · intro X hI; obtain ⟨e0, e1, e2, e3, e4, e5, e6, e7, e8, e9⟩ := hI; go_simp; try go_bits
          try rw [if_pos (by omega)]
          try with_reducible rfl
        refine wpI_take (i := 6) (v := ?_) rfl (by kernel_rfl) (by kernel_rfl) (by kernel_rfl) (fun _ _ _ h => h) ⟨by rfl, ?_⟩ ?_
        rotate_left
        · intro X hI; obtain ⟨e0, e1, e2, e3, e4, e5, e6, e7, e8, e9⟩ := hI; go_simp; try go_bits
          try rw [if_pos (by omega)]
          try with_reducible rfl
        refine wpI_take (i := 7) (v := ?_) rfl (by kernel_rfl) (by kernel_rfl) (by kernel_rfl) (fun _ _ _ h => h) ⟨by rfl, ?_⟩ ?_
        rotate_left
        · intro X hI; obtain ⟨e0, e1, e2, e3, e4, e5, e6, e7, e8, e9⟩ := hI; go_simp; try go_bits
          try rw [if_pos (by omega)]
          try with_reducible rfl
        go_simp
        refine wpI_take (i := 8) (v := ?_) rfl (by kernel_rfl) (by kernel_rfl) (by kernel_rfl) (fun _ _ _ h => h) ⟨by rfl, ?_⟩ ?_
        rotate_left
        · intro X hI; obtain ⟨e0, e1, e2, e3, e4, e5, e6, e7, e8, e9⟩ := hI; go_simp; try go_bits
          try rw [if_pos (by omega)]
          try with_reducible rfl
        refine wpI_take (i := 9) (v := ?_) rfl (by kernel_rfl) (by kernel_rfl) (by kernel_rfl) (fun _ _ _ h => h) ⟨by rfl, ?_⟩ ?_
        rotate_left
        · intro X hI; obtain ⟨e0, e1, e2, e3, e4, e5, e6, e7, e8, e9⟩ := hI; go_simp; try go_bits
          try rw [if_pos (by omega)]
          try with_reducible rfl
        refine wpI_take (i := 10) (v := ?_) rfl (by kernel_rfl) (by kernel_rfl) (by kernel_rfl) (fun _ _ _ h => h) ⟨by rfl, ?_⟩ ?_
        rotate_left
        · intro X hI; obtain ⟨e0, e1, e2, e3, e4, e5, e6, e7, e8, e9⟩ := hI; go_simp; try go_bits
          try rw [if_pos (by omega)]
          try with_reducible rfl
        refine wpI_take (i := 11) (v := ?_) rfl (by kernel_rfl) (by kernel_rfl) (by kernel_rfl) (fun _ _ _ h => h) ⟨by rfl, ?_⟩ ?_
        rotate_left
        · intro X hI; obtain ⟨e0, e1, e2, e3, e4, e5, e6, e7, e8, e9⟩ := hI; go_simp; try go_bits
          try rw [if_pos (by omega)]
          try with_reducible rfl
        go_simp
        refine wpI_take (i := 12) (v := ?_) rfl (by kernel_rfl) (by kernel_rfl) (by kernel_rfl) (fun _ _ _ h => h) ⟨by rfl, ?_⟩ ?_
        rotate_left
        · intro X hI; obtain ⟨e0, e1, e2, e3, e4, e5, e6, e7, e8, e9⟩ := hI; go_simp; try go_bits
          try rw [if_pos (by omega)]
          try with_reducible rfl
        go_simp
        refine wpI_only (i := 13) rfl (by kernel_rfl) RD.out (by rfl) ?_
        intro K hK
        go_simp
        refine hK _ _ ?_
        refine wpI_only (i := 14) rfl (by kernel_rfl) (RD.out.below (below_one _ _)) (by rfl) ?_
        intro K hK
        go_simp
        refine hK _ _ ?_
        refine wpI_done (RD.out.below (below_one _ _)) (by kernel_rfl) ?_ _
        clear RD
        by_cases h6 : (ns f).kd = 6
        · have hb6 : ((ns f).kd == 6) = true := by simp [h6]
          have hb5 : ((ns f).kd == 5) = false := beq_false_of_ne (by omega)
          have h5 : ¬ (ns f).kd = 5 := by omega
          by_cases h7 : (ns t).kd = 7
          · have hb7 : ((ns t).kd == 7) = true := by simp [h7]
            have HNW : Hid (([.int .i64 (f : Int), .int .i64 (t : Int), .int .i64 (ns f).nn, .int .i64 (ns t).nn, .int .i64 0] : List Value) = [.int .i64 (wrs ns ls k).fr, .int .i64 (wrs ns ls k).to, .int .i64 (wrs ns ls k).gi, .int .i64 (wrs ns ls k).ta, .int .i64 (wrs ns ls k).ha]) := by
              show ([.int .i64 (f : Int), .int .i64 (t : Int), .int .i64 (ns f).nn, .int .i64 (ns t).nn, .int .i64 0] : List Value) = _
              rw [HWR.out]
              simp [wrf, HFT.out.1, HFT.out.2, h6, h7]
            go_upto_region 15 with fail
            have u0 : (Y.alloc (.cells #[.int .i64 (f : Int), .int .i64 (t : Int), .int .i64 (ns f).nn, .int .i64 (ns t).nn, .int .i64 0] 65)).cell? ⟨Y.heap.size, 0, none⟩ = some (.int .i64 (f : Int)) := by simp
            have u1 : (Y.alloc (.cells #[.int .i64 (f : Int), .int .i64 (t : Int), .int .i64 (ns f).nn, .int .i64 (ns t).nn, .int .i64 0] 65)).cell? ⟨Y.heap.size, 1, none⟩ = some (.int .i64 (t : Int)) := by simp
            have u2 : (Y.alloc (.cells #[.int .i64 (f : Int), .int .i64 (t : Int), .int .i64 (ns f).nn, .int .i64 (ns t).nn, .int .i64 0] 65)).cell? ⟨Y.heap.size, 2, none⟩ = some (.int .i64 ((ns f).nn)) := by simp
            have u3 : (Y.alloc (.cells #[.int .i64 (f : Int), .int .i64 (t : Int), .int .i64 (ns f).nn, .int .i64 (ns t).nn, .int .i64 0] 65)).cell? ⟨Y.heap.size, 3, none⟩ = some (.int .i64 ((ns t).nn)) := by simp
            have u4 : (Y.alloc (.cells #[.int .i64 (f : Int), .int .i64 (t : Int), .int .i64 (ns f).nn, .int .i64 (ns t).nn, .int .i64 0] 65)).cell? ⟨Y.heap.size, 4, none⟩ = some (.int .i64 (0)) := by simp
            have OWZ : Hid ((Y.alloc (.cells #[.int .i64 (f : Int), .int .i64 (t : Int), .int .i64 (ns f).nn, .int .i64 (ns t).nn, .int .i64 0] 65)).ownsRow wa.heap.size 65 5 (.slice xo k xc) k (ils (zs (wrs ns ls)) (k * 5))) := own_below OW7.out (below_one _ _)
            have BWZ : Hid (Below wa.heap.size wa (Y.alloc (.cells #[.int .i64 (f : Int), .int .i64 (t : Int), .int .i64 (ns f).nn, .int .i64 (ns t).nn, .int .i64 0] 65))) := bstep BW7.out (below_one _ _)
            clear a0 a1 a2 b0 b1 b2 OW7 BW7 hpx hqx
            generalize (Y.alloc (.cells #[.int .i64 (f : Int), .int .i64 (t : Int), .int .i64 (ns f).nn, .int .i64 (ns t).nn, .int .i64 0] 65)) = Z at u0 u1 u2 u3 u4 OWZ BWZ ⊢
            go_upto_region 6 with (at_builtin; refine wpList_app _ rfl _ _ 35 rfl wa.heap.size 65 i0 (.agg #[.int .i64 0, .int .i64 0, .int .i64 0, .int .i64 0, .int .i64 0]) 5 40 Tryd.underlying35 hi hz0 hz1 hz2 rfl (by decide) _ _ _ rfl (own_below OWZ.out (below_one _ _)) ⟨Z.heap.size, 0, none⟩ 1 1 [.int .i64 (f : Int), .int .i64 (t : Int), .int .i64 (ns f).nn, .int .i64 (ns t).nn, .int .i64 0] rfl rfl (five_new _ _ _ _ _ _ _) (by simp [Value.oneCell']) (by unfold maxLen; omega) (by omega) (bstep BWZ.out (below_one _ _)).size (by decide) ?_; intro v' w4 ho hgw hu; obtain ⟨oa, oc, rfl⟩ := own_op ho; rw [HNW.out, zs_more] at ho; have OG : Hid (w4.ownsRow wa.heap.size 65 5 (.slice oa (k + 1) oc) (k + 1) (ils (zs (wrs ns ls)) ((k + 1) * 5))) := ho; have BG : Hid (Below wa.heap.size wa w4) := (bstep BWZ.out (below_one _ _)).grown hgw (bstep BWZ.out (below_one _ _)).size (fun q hq => (World.ownsRow.lt OWZ.out q hq).1); clear hgw hu ho)
            go_wp2
            go_roundw
            case rel => exact ⟨k + 1, oa, oc, by go_num, by omega, rfl, OG.out, BG.out⟩
            case measure => simp [intOf]; omega
          by_cases h8 : (ns t).kd = 8
          · have hb7 : ((ns t).kd == 7) = false := beq_false_of_ne h7
            have hb8 : ((ns t).kd == 8) = true := by simp [h8]
            have HNW : Hid (([.int .i64 (f : Int), .int .i64 (t : Int), .int .i64 (ns f).nn, .int .i64 (ns t).nn, .int .i64 0] : List Value) = [.int .i64 (wrs ns ls k).fr, .int .i64 (wrs ns ls k).to, .int .i64 (wrs ns ls k).gi, .int .i64 (wrs ns ls k).ta, .int .i64 (wrs ns ls k).ha]) := by
              show ([.int .i64 (f : Int), .int .i64 (t : Int), .int .i64 (ns f).nn, .int .i64 (ns t).nn, .int .i64 0] : List Value) = _
              rw [HWR.out]
              simp [wrf, HFT.out.1, HFT.out.2, h6, h8]
            go_upto_region 15 with fail
            have u0 : (Y.alloc (.cells #[.int .i64 (f : Int), .int .i64 (t : Int), .int .i64 (ns f).nn, .int .i64 (ns t).nn, .int .i64 0] 65)).cell? ⟨Y.heap.size, 0, none⟩ = some (.int .i64 (f : Int)) := by simp
            have u1 : (Y.alloc (.cells #[.int .i64 (f : Int), .int .i64 (t : Int), .int .i64 (ns f).nn, .int .i64 (ns t).nn, .int .i64 0] 65)).cell? ⟨Y.heap.size, 1, none⟩ = some (.int .i64 (t : Int)) := by simp
            have u2 : (Y.alloc (.cells #[.int .i64 (f : Int), .int .i64 (t : Int), .int .i64 (ns f).nn, .int .i64 (ns t).nn, .int .i64 0] 65)).cell? ⟨Y.heap.size, 2, none⟩ = some (.int .i64 ((ns f).nn)) := by simp
            have u3 : (Y.alloc (.cells #[.int .i64 (f : Int), .int .i64 (t : Int), .int .i64 (ns f).nn, .int .i64 (ns t).nn, .int .i64 0] 65)).cell? ⟨Y.heap.size, 3, none⟩ = some (.int .i64 ((ns t).nn)) := by simp
            have u4 : (Y.alloc (.cells #[.int .i64 (f : Int), .int .i64 (t : Int), .int .i64 (ns f).nn, .int .i64 (ns t).nn, .int .i64 0] 65)).cell? ⟨Y.heap.size, 4, none⟩ = some (.int .i64 (0)) := by simp
            have OWZ : Hid ((Y.alloc (.cells #[.int .i64 (f : Int), .int .i64 (t : Int), .int .i64 (ns f).nn, .int .i64 (ns t).nn, .int .i64 0] 65)).ownsRow wa.heap.size 65 5 (.slice xo k xc) k (ils (zs (wrs ns ls)) (k * 5))) := own_below OW7.out (below_one _ _)
            have BWZ : Hid (Below wa.heap.size wa (Y.alloc (.cells #[.int .i64 (f : Int), .int .i64 (t : Int), .int .i64 (ns f).nn, .int .i64 (ns t).nn, .int .i64 0] 65))) := bstep BW7.out (below_one _ _)
            clear a0 a1 a2 b0 b1 b2 OW7 BW7 hpx hqx
            generalize (Y.alloc (.cells #[.int .i64 (f : Int), .int .i64 (t : Int), .int .i64 (ns f).nn, .int .i64 (ns t).nn, .int .i64 0] 65)) = Z at u0 u1 u2 u3 u4 OWZ BWZ ⊢
            go_upto_region 6 with (at_builtin; refine wpList_app _ rfl _ _ 35 rfl wa.heap.size 65 i0 (.agg #[.int .i64 0, .int .i64 0, .int .i64 0, .int .i64 0, .int .i64 0]) 5 40 Tryd.underlying35 hi hz0 hz1 hz2 rfl (by decide) _ _ _ rfl (own_below OWZ.out (below_one _ _)) ⟨Z.heap.size, 0, none⟩ 1 1 [.int .i64 (f : Int), .int .i64 (t : Int), .int .i64 (ns f).nn, .int .i64 (ns t).nn, .int .i64 0] rfl rfl (five_new _ _ _ _ _ _ _) (by simp [Value.oneCell']) (by unfold maxLen; omega) (by omega) (bstep BWZ.out (below_one _ _)).size (by decide) ?_; intro v' w4 ho hgw hu; obtain ⟨oa, oc, rfl⟩ := own_op ho; rw [HNW.out, zs_more] at ho; have OG : Hid (w4.ownsRow wa.heap.size 65 5 (.slice oa (k + 1) oc) (k + 1) (ils (zs (wrs ns ls)) ((k + 1) * 5))) := ho; have BG : Hid (Below wa.heap.size wa w4) := (bstep BWZ.out (below_one _ _)).grown hgw (bstep BWZ.out (below_one _ _)).size (fun q hq => (World.ownsRow.lt OWZ.out q hq).1); clear hgw hu ho)
            go_wp2
            go_roundw
            case rel => exact ⟨k + 1, oa, oc, by go_num, by omega, rfl, OG.out, BG.out⟩
            case measure => simp [intOf]; omega
          · have hb7 : ((ns t).kd == 7) = false := beq_false_of_ne h7
            have hb8 : ((ns t).kd == 8) = false := beq_false_of_ne h8
            have HNW : Hid (([.int .i64 (f : Int), .int .i64 (t : Int), .int .i64 (ns f).nn, .int .i64 1, .int .i64 0] : List Value) = [.int .i64 (wrs ns ls k).fr, .int .i64 (wrs ns ls k).to, .int .i64 (wrs ns ls k).gi, .int .i64 (wrs ns ls k).ta, .int .i64 (wrs ns ls k).ha]) := by
              show ([.int .i64 (f : Int), .int .i64 (t : Int), .int .i64 (ns f).nn, .int .i64 1, .int .i64 0] : List Value) = _
              rw [HWR.out]
              simp [wrf, HFT.out.1, HFT.out.2, h6, h7, h8]
            go_upto_region 15 with fail
            have u0 : (Y.alloc (.cells #[.int .i64 (f : Int), .int .i64 (t : Int), .int .i64 (ns f).nn, .int .i64 1, .int .i64 0] 65)).cell? ⟨Y.heap.size, 0, none⟩ = some (.int .i64 (f : Int)) := by simp
            have u1 : (Y.alloc (.cells #[.int .i64 (f : Int), .int .i64 (t : Int), .int .i64 (ns f).nn, .int .i64 1, .int .i64 0] 65)).cell? ⟨Y.heap.size, 1, none⟩ = some (.int .i64 (t : Int)) := by simp
            have u2 : (Y.alloc (.cells #[.int .i64 (f : Int), .int .i64 (t : Int), .int .i64 (ns f).nn, .int .i64 1, .int .i64 0] 65)).cell? ⟨Y.heap.size, 2, none⟩ = some (.int .i64 ((ns f).nn)) := by simp
            have u3 : (Y.alloc (.cells #[.int .i64 (f : Int), .int .i64 (t : Int), .int .i64 (ns f).nn, .int .i64 1, .int .i64 0] 65)).cell? ⟨Y.heap.size, 3, none⟩ = some (.int .i64 (1)) := by simp
            have u4 : (Y.alloc (.cells #[.int .i64 (f : Int), .int .i64 (t : Int), .int .i64 (ns f).nn, .int .i64 1, .int .i64 0] 65)).cell? ⟨Y.heap.size, 4, none⟩ = some (.int .i64 (0)) := by simp
            have OWZ : Hid ((Y.alloc (.cells #[.int .i64 (f : Int), .int .i64 (t : Int), .int .i64 (ns f).nn, .int .i64 1, .int .i64 0] 65)).ownsRow wa.heap.size 65 5 (.slice xo k xc) k (ils (zs (wrs ns ls)) (k * 5))) := own_below OW7.out (below_one _ _)
            have BWZ : Hid (Below wa.heap.size wa (Y.alloc (.cells #[.int .i64 (f : Int), .int .i64 (t : Int), .int .i64 (ns f).nn, .int .i64 1, .int .i64 0] 65))) := bstep BW7.out (below_one _ _)
            clear a0 a1 a2 b0 b1 b2 OW7 BW7 hpx hqx
            generalize (Y.alloc (.cells #[.int .i64 (f : Int), .int .i64 (t : Int), .int .i64 (ns f).nn, .int .i64 1, .int .i64 0] 65)) = Z at u0 u1 u2 u3 u4 OWZ BWZ ⊢
            go_upto_region 6 with (at_builtin; refine wpList_app _ rfl _ _ 35 rfl wa.heap.size 65 i0 (.agg #[.int .i64 0, .int .i64 0, .int .i64 0, .int .i64 0, .int .i64 0]) 5 40 Tryd.underlying35 hi hz0 hz1 hz2 rfl (by decide) _ _ _ rfl (own_below OWZ.out (below_one _ _)) ⟨Z.heap.size, 0, none⟩ 1 1 [.int .i64 (f : Int), .int .i64 (t : Int), .int .i64 (ns f).nn, .int .i64 1, .int .i64 0] rfl rfl (five_new _ _ _ _ _ _ _) (by simp [Value.oneCell']) (by unfold maxLen; omega) (by omega) (bstep BWZ.out (below_one _ _)).size (by decide) ?_; intro v' w4 ho hgw hu; obtain ⟨oa, oc, rfl⟩ := own_op ho; rw [HNW.out, zs_more] at ho; have OG : Hid (w4.ownsRow wa.heap.size 65 5 (.slice oa (k + 1) oc) (k + 1) (ils (zs (wrs ns ls)) ((k + 1) * 5))) := ho; have BG : Hid (Below wa.heap.size wa w4) := (bstep BWZ.out (below_one _ _)).grown hgw (bstep BWZ.out (below_one _ _)).size (fun q hq => (World.ownsRow.lt OWZ.out q hq).1); clear hgw hu ho)
            go_wp2
            go_roundw
            case rel => exact ⟨k + 1, oa, oc, by go_num, by omega, rfl, OG.out, BG.out⟩
            case measure => simp [intOf]; omega
        by_cases h5 : (ns f).kd = 5
        · have hb6 : ((ns f).kd == 6) = false := beq_false_of_ne h6
          have hb5 : ((ns f).kd == 5) = true := by simp [h5]
          by_cases h7 : (ns t).kd = 7
          · have hb7 : ((ns t).kd == 7) = true := by simp [h7]
            have HNW : Hid (([.int .i64 (f : Int), .int .i64 (t : Int), .int .i64 1, .int .i64 (ns t).nn, .int .i64 (ns f).nn] : List Value) = [.int .i64 (wrs ns ls k).fr, .int .i64 (wrs ns ls k).to, .int .i64 (wrs ns ls k).gi, .int .i64 (wrs ns ls k).ta, .int .i64 (wrs ns ls k).ha]) := by
              show ([.int .i64 (f : Int), .int .i64 (t : Int), .int .i64 1, .int .i64 (ns t).nn, .int .i64 (ns f).nn] : List Value) = _
              rw [HWR.out]
              simp [wrf, HFT.out.1, HFT.out.2, h5, h7]
            go_upto_region 15 with fail
            have u0 : (Y.alloc (.cells #[.int .i64 (f : Int), .int .i64 (t : Int), .int .i64 1, .int .i64 (ns t).nn, .int .i64 (ns f).nn] 65)).cell? ⟨Y.heap.size, 0, none⟩ = some (.int .i64 (f : Int)) := by simp
            have u1 : (Y.alloc (.cells #[.int .i64 (f : Int), .int .i64 (t : Int), .int .i64 1, .int .i64 (ns t).nn, .int .i64 (ns f).nn] 65)).cell? ⟨Y.heap.size, 1, none⟩ = some (.int .i64 (t : Int)) := by simp
            have u2 : (Y.alloc (.cells #[.int .i64 (f : Int), .int .i64 (t : Int), .int .i64 1, .int .i64 (ns t).nn, .int .i64 (ns f).nn] 65)).cell? ⟨Y.heap.size, 2, none⟩ = some (.int .i64 (1)) := by simp
            have u3 : (Y.alloc (.cells #[.int .i64 (f : Int), .int .i64 (t : Int), .int .i64 1, .int .i64 (ns t).nn, .int .i64 (ns f).nn] 65)).cell? ⟨Y.heap.size, 3, none⟩ = some (.int .i64 ((ns t).nn)) := by simp
            have u4 : (Y.alloc (.cells #[.int .i64 (f : Int), .int .i64 (t : Int), .int .i64 1, .int .i64 (ns t).nn, .int .i64 (ns f).nn] 65)).cell? ⟨Y.heap.size, 4, none⟩ = some (.int .i64 ((ns f).nn)) := by simp
            have OWZ : Hid ((Y.alloc (.cells #[.int .i64 (f : Int), .int .i64 (t : Int), .int .i64 1, .int .i64 (ns t).nn, .int .i64 (ns f).nn] 65)).ownsRow wa.heap.size 65 5 (.slice xo k xc) k (ils (zs (wrs ns ls)) (k * 5))) := own_below OW7.out (below_one _ _)
            have BWZ : Hid (Below wa.heap.size wa (Y.alloc (.cells #[.int .i64 (f : Int), .int .i64 (t : Int), .int .i64 1, .int .i64 (ns t).nn, .int .i64 (ns f).nn] 65))) := bstep BW7.out (below_one _ _)
            clear a0 a1 a2 b0 b1 b2 OW7 BW7 hpx hqx
            generalize (Y.alloc (.cells #[.int .i64 (f : Int), .int .i64 (t : Int), .int .i64 1, .int .i64 (ns t).nn, .int .i64 (ns f).nn] 65)) = Z at u0 u1 u2 u3 u4 OWZ BWZ ⊢
            go_upto_region 6 with (at_builtin; refine wpList_app _ rfl _ _ 35 rfl wa.heap.size 65 i0 (.agg #[.int .i64 0, .int .i64 0, .int .i64 0, .int .i64 0, .int .i64 0]) 5 40 Tryd.underlying35 hi hz0 hz1 hz2 rfl (by decide) _ _ _ rfl (own_below OWZ.out (below_one _ _)) ⟨Z.heap.size, 0, none⟩ 1 1 [.int .i64 (f : Int), .int .i64 (t : Int), .int .i64 1, .int .i64 (ns t).nn, .int .i64 (ns f).nn] rfl rfl (five_new _ _ _ _ _ _ _) (by simp [Value.oneCell']) (by unfold maxLen; omega) (by omega) (bstep BWZ.out (below_one _ _)).size (by decide) ?_; intro v' w4 ho hgw hu; obtain ⟨oa, oc, rfl⟩ := own_op ho; rw [HNW.out, zs_more] at ho; have OG : Hid (w4.ownsRow wa.heap.size 65 5 (.slice oa (k + 1) oc) (k + 1) (ils (zs (wrs ns ls)) ((k + 1) * 5))) := ho; have BG : Hid (Below wa.heap.size wa w4) := (bstep BWZ.out (below_one _ _)).grown hgw (bstep BWZ.out (below_one _ _)).size (fun q hq => (World.ownsRow.lt OWZ.out q hq).1); clear hgw hu ho)
            go_wp2
            go_roundw
            case rel => exact ⟨k + 1, oa, oc, by go_num, by omega, rfl, OG.out, BG.out⟩
            case measure => simp [intOf]; omega
          by_cases h8 : (ns t).kd = 8
          · have hb7 : ((ns t).kd == 7) = false := beq_false_of_ne h7
            have hb8 : ((ns t).kd == 8) = true := by simp [h8]
            have HNW : Hid (([.int .i64 (f : Int), .int .i64 (t : Int), .int .i64 1, .int .i64 (ns t).nn, .int .i64 (ns f).nn] : List Value) = [.int .i64 (wrs ns ls k).fr, .int .i64 (wrs ns ls k).to, .int .i64 (wrs ns ls k).gi, .int .i64 (wrs ns ls k).ta, .int .i64 (wrs ns ls k).ha]) := by
              show ([.int .i64 (f : Int), .int .i64 (t : Int), .int .i64 1, .int .i64 (ns t).nn, .int .i64 (ns f).nn] : List Value) = _
              rw [HWR.out]
              simp [wrf, HFT.out.1, HFT.out.2, h5, h8]
            go_upto_region 15 with fail
            have u0 : (Y.alloc (.cells #[.int .i64 (f : Int), .int .i64 (t : Int), .int .i64 1, .int .i64 (ns t).nn, .int .i64 (ns f).nn] 65)).cell? ⟨Y.heap.size, 0, none⟩ = some (.int .i64 (f : Int)) := by simp
            have u1 : (Y.alloc (.cells #[.int .i64 (f : Int), .int .i64 (t : Int), .int .i64 1, .int .i64 (ns t).nn, .int .i64 (ns f).nn] 65)).cell? ⟨Y.heap.size, 1, none⟩ = some (.int .i64 (t : Int)) := by simp
            have u2 : (Y.alloc (.cells #[.int .i64 (f : Int), .int .i64 (t : Int), .int .i64 1, .int .i64 (ns t).nn, .int .i64 (ns f).nn] 65)).cell? ⟨Y.heap.size, 2, none⟩ = some (.int .i64 (1)) := by simp
            have u3 : (Y.alloc (.cells #[.int .i64 (f : Int), .int .i64 (t : Int), .int .i64 1, .int .i64 (ns t).nn, .int .i64 (ns f).nn] 65)).cell? ⟨Y.heap.size, 3, none⟩ = some (.int .i64 ((ns t).nn)) := by simp
            have u4 : (Y.alloc (.cells #[.int .i64 (f : Int), .int .i64 (t : Int), .int .i64 1, .int .i64 (ns t).nn, .int .i64 (ns f).nn] 65)).cell? ⟨Y.heap.size, 4, none⟩ = some (.int .i64 ((ns f).nn)) := by simp
            have OWZ : Hid ((Y.alloc (.cells #[.int .i64 (f : Int), .int .i64 (t : Int), .int .i64 1, .int .i64 (ns t).nn, .int .i64 (ns f).nn] 65)).ownsRow wa.heap.size 65 5 (.slice xo k xc) k (ils (zs (wrs ns ls)) (k * 5))) := own_below OW7.out (below_one _ _)
            have BWZ : Hid (Below wa.heap.size wa (Y.alloc (.cells #[.int .i64 (f : Int), .int .i64 (t : Int), .int .i64 1, .int .i64 (ns t).nn, .int .i64 (ns f).nn] 65))) := bstep BW7.out (below_one _ _)
            clear a0 a1 a2 b0 b1 b2 OW7 BW7 hpx hqx
            generalize (Y.alloc (.cells #[.int .i64 (f : Int), .int .i64 (t : Int), .int .i64 1, .int .i64 (ns t).nn, .int .i64 (ns f).nn] 65)) = Z at u0 u1 u2 u3 u4 OWZ BWZ ⊢
            go_upto_region 6 with (at_builtin; refine wpList_app _ rfl _ _ 35 rfl wa.heap.size 65 i0 (.agg #[.int .i64 0, .int .i64 0, .int .i64 0, .int .i64 0, .int .i64 0]) 5 40 Tryd.underlying35 hi hz0 hz1 hz2 rfl (by decide) _ _ _ rfl (own_below OWZ.out (below_one _ _)) ⟨Z.heap.size, 0, none⟩ 1 1 [.int .i64 (f : Int), .int .i64 (t : Int), .int .i64 1, .int .i64 (ns t).nn, .int .i64 (ns f).nn] rfl rfl (five_new _ _ _ _ _ _ _) (by simp [Value.oneCell']) (by unfold maxLen; omega) (by omega) (bstep BWZ.out (below_one _ _)).size (by decide) ?_; intro v' w4 ho hgw hu; obtain ⟨oa, oc, rfl⟩ := own_op ho; rw [HNW.out, zs_more] at ho; have OG : Hid (w4.ownsRow wa.heap.size 65 5 (.slice oa (k + 1) oc) (k + 1) (ils (zs (wrs ns ls)) ((k + 1) * 5))) := ho; have BG : Hid (Below wa.heap.size wa w4) := (bstep BWZ.out (below_one _ _)).grown hgw (bstep BWZ.out (below_one _ _)).size (fun q hq => (World.ownsRow.lt OWZ.out q hq).1); clear hgw hu ho)
            go_wp2
            go_roundw
            case rel => exact ⟨k + 1, oa, oc, by go_num, by omega, rfl, OG.out, BG.out⟩
            case measure => simp [intOf]; omega
          · have hb7 : ((ns t).kd == 7) = false := beq_false_of_ne h7
            have hb8 : ((ns t).kd == 8) = false := beq_false_of_ne h8
            have HNW : Hid (([.int .i64 (f : Int), .int .i64 (t : Int), .int .i64 1, .int .i64 1, .int .i64 (ns f).nn] : List Value) = [.int .i64 (wrs ns ls k).fr, .int .i64 (wrs ns ls k).to, .int .i64 (wrs ns ls k).gi, .int .i64 (wrs ns ls k).ta, .int .i64 (wrs ns ls k).ha]) := by
              show ([.int .i64 (f : Int), .int .i64 (t : Int), .int .i64 1, .int .i64 1, .int .i64 (ns f).nn] : List Value) = _
              rw [HWR.out]
              simp [wrf, HFT.out.1, HFT.out.2, h5, h7, h8]
            go_upto_region 15 with fail
            have u0 : (Y.alloc (.cells #[.int .i64 (f : Int), .int .i64 (t : Int), .int .i64 1, .int .i64 1, .int .i64 (ns f).nn] 65)).cell? ⟨Y.heap.size, 0, none⟩ = some (.int .i64 (f : Int)) := by simp
            have u1 : (Y.alloc (.cells #[.int .i64 (f : Int), .int .i64 (t : Int), .int .i64 1, .int .i64 1, .int .i64 (ns f).nn] 65)).cell? ⟨Y.heap.size, 1, none⟩ = some (.int .i64 (t : Int)) := by simp
            have u2 : (Y.alloc (.cells #[.int .i64 (f : Int), .int .i64 (t : Int), .int .i64 1, .int .i64 1, .int .i64 (ns f).nn] 65)).cell? ⟨Y.heap.size, 2, none⟩ = some (.int .i64 (1)) := by simp
            have u3 : (Y.alloc (.cells #[.int .i64 (f : Int), .int .i64 (t : Int), .int .i64 1, .int .i64 1, .int .i64 (ns f).nn] 65)).cell? ⟨Y.heap.size, 3, none⟩ = some (.int .i64 (1)) := by simp
            have u4 : (Y.alloc (.cells #[.int .i64 (f : Int), .int .i64 (t : Int), .int .i64 1, .int .i64 1, .int .i64 (ns f).nn] 65)).cell? ⟨Y.heap.size, 4, none⟩ = some (.int .i64 ((ns f).nn)) := by simp
            have OWZ : Hid ((Y.alloc (.cells #[.int .i64 (f : Int), .int .i64 (t : Int), .int .i64 1, .int .i64 1, .int .i64 (ns f).nn] 65)).ownsRow wa.heap.size 65 5 (.slice xo k xc) k (ils (zs (wrs ns ls)) (k * 5))) := own_below OW7.out (below_one _ _)
            have BWZ : Hid (Below wa.heap.size wa (Y.alloc (.cells #[.int .i64 (f : Int), .int .i64 (t : Int), .int .i64 1, .int .i64 1, .int .i64 (ns f).nn] 65))) := bstep BW7.out (below_one _ _)
            clear a0 a1 a2 b0 b1 b2 OW7 BW7 hpx hqx
            generalize (Y.alloc (.cells #[.int .i64 (f : Int), .int .i64 (t : Int), .int .i64 1, .int .i64 1, .int .i64 (ns f).nn] 65)) = Z at u0 u1 u2 u3 u4 OWZ BWZ ⊢
            go_upto_region 6 with (at_builtin; refine wpList_app _ rfl _ _ 35 rfl wa.heap.size 65 i0 (.agg #[.int .i64 0, .int .i64 0, .int .i64 0, .int .i64 0, .int .i64 0]) 5 40 Tryd.underlying35 hi hz0 hz1 hz2 rfl (by decide) _ _ _ rfl (own_below OWZ.out (below_one _ _)) ⟨Z.heap.size, 0, none⟩ 1 1 [.int .i64 (f : Int), .int .i64 (t : Int), .int .i64 1, .int .i64 1, .int .i64 (ns f).nn] rfl rfl (five_new _ _ _ _ _ _ _) (by simp [Value.oneCell']) (by unfold maxLen; omega) (by omega) (bstep BWZ.out (below_one _ _)).size (by decide) ?_; intro v' w4 ho hgw hu; obtain ⟨oa, oc, rfl⟩ := own_op ho; rw [HNW.out, zs_more] at ho; have OG : Hid (w4.ownsRow wa.heap.size 65 5 (.slice oa (k + 1) oc) (k + 1) (ils (zs (wrs ns ls)) ((k + 1) * 5))) := ho; have BG : Hid (Below wa.heap.size wa w4) := (bstep BWZ.out (below_one _ _)).grown hgw (bstep BWZ.out (below_one _ _)).size (fun q hq => (World.ownsRow.lt OWZ.out q hq).1); clear hgw hu ho)
            go_wp2
            go_roundw
            case rel => exact ⟨k + 1, oa, oc, by go_num, by omega, rfl, OG.out, BG.out⟩
            case measure => simp [intOf]; omega
        · have hb6 : ((ns f).kd == 6) = false := beq_false_of_ne h6
          have hb5 : ((ns f).kd == 5) = false := beq_false_of_ne h5
          by_cases h7 : (ns t).kd = 7
          · have hb7 : ((ns t).kd == 7) = true := by simp [h7]
            have HNW : Hid (([.int .i64 (f : Int), .int .i64 (t : Int), .int .i64 1, .int .i64 (ns t).nn, .int .i64 0] : List Value) = [.int .i64 (wrs ns ls k).fr, .int .i64 (wrs ns ls k).to, .int .i64 (wrs ns ls k).gi, .int .i64 (wrs ns ls k).ta, .int .i64 (wrs ns ls k).ha]) := by
              show ([.int .i64 (f : Int), .int .i64 (t : Int), .int .i64 1, .int .i64 (ns t).nn, .int .i64 0] : List Value) = _
              rw [HWR.out]
              simp [wrf, HFT.out.1, HFT.out.2, h6, h5, h7]
            go_upto_region 15 with fail
            have u0 : (Y.alloc (.cells #[.int .i64 (f : Int), .int .i64 (t : Int), .int .i64 1, .int .i64 (ns t).nn, .int .i64 0] 65)).cell? ⟨Y.heap.size, 0, none⟩ = some (.int .i64 (f : Int)) := by simp
            have u1 : (Y.alloc (.cells #[.int .i64 (f : Int), .int .i64 (t : Int), .int .i64 1, .int .i64 (ns t).nn, .int .i64 0] 65)).cell? ⟨Y.heap.size, 1, none⟩ = some (.int .i64 (t : Int)) := by simp
            have u2 : (Y.alloc (.cells #[.int .i64 (f : Int), .int .i64 (t : Int), .int .i64 1, .int .i64 (ns t).nn, .int .i64 0] 65)).cell? ⟨Y.heap.size, 2, none⟩ = some (.int .i64 (1)) := by simp
            have u3 : (Y.alloc (.cells #[.int .i64 (f : Int), .int .i64 (t : Int), .int .i64 1, .int .i64 (ns t).nn, .int .i64 0] 65)).cell? ⟨Y.heap.size, 3, none⟩ = some (.int .i64 ((ns t).nn)) := by simp
            have u4 : (Y.alloc (.cells #[.int .i64 (f : Int), .int .i64 (t : Int), .int .i64 1, .int .i64 (ns t).nn, .int .i64 0] 65)).cell? ⟨Y.heap.size, 4, none⟩ = some (.int .i64 (0)) := by simp
            have OWZ : Hid ((Y.alloc (.cells #[.int .i64 (f : Int), .int .i64 (t : Int), .int .i64 1, .int .i64 (ns t).nn, .int .i64 0] 65)).ownsRow wa.heap.size 65 5 (.slice xo k xc) k (ils (zs (wrs ns ls)) (k * 5))) := own_below OW7.out (below_one _ _)
            have BWZ : Hid (Below wa.heap.size wa (Y.alloc (.cells #[.int .i64 (f : Int), .int .i64 (t : Int), .int .i64 1, .int .i64 (ns t).nn, .int .i64 0] 65))) := bstep BW7.out (below_one _ _)
            clear a0 a1 a2 b0 b1 b2 OW7 BW7 hpx hqx
            generalize (Y.alloc (.cells #[.int .i64 (f : Int), .int .i64 (t : Int), .int .i64 1, .int .i64 (ns t).nn, .int .i64 0] 65)) = Z at u0 u1 u2 u3 u4 OWZ BWZ ⊢
            go_upto_region 6 with (at_builtin; refine wpList_app _ rfl _ _ 35 rfl wa.heap.size 65 i0 (.agg #[.int .i64 0, .int .i64 0, .int .i64 0, .int .i64 0, .int .i64 0]) 5 40 Tryd.underlying35 hi hz0 hz1 hz2 rfl (by decide) _ _ _ rfl (own_below OWZ.out (below_one _ _)) ⟨Z.heap.size, 0, none⟩ 1 1 [.int .i64 (f : Int), .int .i64 (t : Int), .int .i64 1, .int .i64 (ns t).nn, .int .i64 0] rfl rfl (five_new _ _ _ _ _ _ _) (by simp [Value.oneCell']) (by unfold maxLen; omega) (by omega) (bstep BWZ.out (below_one _ _)).size (by decide) ?_; intro v' w4 ho hgw hu; obtain ⟨oa, oc, rfl⟩ := own_op ho; rw [HNW.out, zs_more] at ho; have OG : Hid (w4.ownsRow wa.heap.size 65 5 (.slice oa (k + 1) oc) (k + 1) (ils (zs (wrs ns ls)) ((k + 1) * 5))) := ho; have BG : Hid (Below wa.heap.size wa w4) := (bstep BWZ.out (below_one _ _)).grown hgw (bstep BWZ.out (below_one _ _)).size (fun q hq => (World.ownsRow.lt OWZ.out q hq).1); clear hgw hu ho)
            go_wp2
            go_roundw
            case rel => exact ⟨k + 1, oa, oc, by go_num, by omega, rfl, OG.out, BG.out⟩
            case measure => simp [intOf]; omega
          by_cases h8 : (ns t).kd = 8
          · have hb7 : ((ns t).kd == 7) = false := beq_false_of_ne h7
            have hb8 : ((ns t).kd == 8) = true := by simp [h8]
            have HNW : Hid (([.int .i64 (f : Int), .int .i64 (t : Int), .int .i64 1, .int .i64 (ns t).nn, .int .i64 0] : List Value) = [.int .i64 (wrs ns ls k).fr, .int .i64 (wrs ns ls k).to, .int .i64 (wrs ns ls k).gi, .int .i64 (wrs ns ls k).ta, .int .i64 (wrs ns ls k).ha]) := by
              show ([.int .i64 (f : Int), .int .i64 (t : Int), .int .i64 1, .int .i64 (ns t).nn, .int .i64 0] : List Value) = _
              rw [HWR.out]
              simp [wrf, HFT.out.1, HFT.out.2, h6, h5, h8]
            go_upto_region 15 with fail
            have u0 : (Y.alloc (.cells #[.int .i64 (f : Int), .int .i64 (t : Int), .int .i64 1, .int .i64 (ns t).nn, .int .i64 0] 65)).cell? ⟨Y.heap.size, 0, none⟩ = some (.int .i64 (f : Int)) := by simp
            have u1 : (Y.alloc (.cells #[.int .i64 (f : Int), .int .i64 (t : Int), .int .i64 1, .int .i64 (ns t).nn, .int .i64 0] 65)).cell? ⟨Y.heap.size, 1, none⟩ = some (.int .i64 (t : Int)) := by simp
            have u2 : (Y.alloc (.cells #[.int .i64 (f : Int), .int .i64 (t : Int), .int .i64 1, .int .i64 (ns t).nn, .int .i64 0] 65)).cell? ⟨Y.heap.size, 2, none⟩ = some (.int .i64 (1)) := by simp
            have u3 : (Y.alloc (.cells #[.int .i64 (f : Int), .int .i64 (t : Int), .int .i64 1, .int .i64 (ns t).nn, .int .i64 0] 65)).cell? ⟨Y.heap.size, 3, none⟩ = some (.int .i64 ((ns t).nn)) := by simp
            have u4 : (Y.alloc (.cells #[.int .i64 (f : Int), .int .i64 (t : Int), .int .i64 1, .int .i64 (ns t).nn, .int .i64 0] 65)).cell? ⟨Y.heap.size, 4, none⟩ = some (.int .i64 (0)) := by simp
            have OWZ : Hid ((Y.alloc (.cells #[.int .i64 (f : Int), .int .i64 (t : Int), .int .i64 1, .int .i64 (ns t).nn, .int .i64 0] 65)).ownsRow wa.heap.size 65 5 (.slice xo k xc) k (ils (zs (wrs ns ls)) (k * 5))) := own_below OW7.out (below_one _ _)
            have BWZ : Hid (Below wa.heap.size wa (Y.alloc (.cells #[.int .i64 (f : Int), .int .i64 (t : Int), .int .i64 1, .int .i64 (ns t).nn, .int .i64 0] 65))) := bstep BW7.out (below_one _ _)
            clear a0 a1 a2 b0 b1 b2 OW7 BW7 hpx hqx
            generalize (Y.alloc (.cells #[.int .i64 (f : Int), .int .i64 (t : Int), .int .i64 1, .int .i64 (ns t).nn, .int .i64 0] 65)) = Z at u0 u1 u2 u3 u4 OWZ BWZ ⊢
            go_upto_region 6 with (at_builtin; refine wpList_app _ rfl _ _ 35 rfl wa.heap.size 65 i0 (.agg #[.int .i64 0, .int .i64 0, .int .i64 0, .int .i64 0, .int .i64 0]) 5 40 Tryd.underlying35 hi hz0 hz1 hz2 rfl (by decide) _ _ _ rfl (own_below OWZ.out (below_one _ _)) ⟨Z.heap.size, 0, none⟩ 1 1 [.int .i64 (f : Int), .int .i64 (t : Int), .int .i64 1, .int .i64 (ns t).nn, .int .i64 0] rfl rfl (five_new _ _ _ _ _ _ _) (by simp [Value.oneCell']) (by unfold maxLen; omega) (by omega) (bstep BWZ.out (below_one _ _)).size (by decide) ?_; intro v' w4 ho hgw hu; obtain ⟨oa, oc, rfl⟩ := own_op ho; rw [HNW.out, zs_more] at ho; have OG : Hid (w4.ownsRow wa.heap.size 65 5 (.slice oa (k + 1) oc) (k + 1) (ils (zs (wrs ns ls)) ((k + 1) * 5))) := ho; have BG : Hid (Below wa.heap.size wa w4) := (bstep BWZ.out (below_one _ _)).grown hgw (bstep BWZ.out (below_one _ _)).size (fun q hq => (World.ownsRow.lt OWZ.out q hq).1); clear hgw hu ho)
            go_wp2
            go_roundw
            case rel => exact ⟨k + 1, oa, oc, by go_num, by omega, rfl, OG.out, BG.out⟩
            case measure => simp [intOf]; omega
          · have hb7 : ((ns t).kd == 7) = false := beq_false_of_ne h7
            have hb8 : ((ns t).kd == 8) = false := beq_false_of_ne h8
            have HNW : Hid (([.int .i64 (f : Int), .int .i64 (t : Int), .int .i64 1, .int .i64 1, .int .i64 0] : List Value) = [.int .i64 (wrs ns ls k).fr, .int .i64 (wrs ns ls k).to, .int .i64 (wrs ns ls k).gi, .int .i64 (wrs ns ls k).ta, .int .i64 (wrs ns ls k).ha]) := by
              show ([.int .i64 (f : Int), .int .i64 (t : Int), .int .i64 1, .int .i64 1, .int .i64 0] : List Value) = _
              rw [HWR.out]
              simp [wrf, HFT.out.1, HFT.out.2, h6, h5, h7, h8]
            go_upto_region 15 with fail
            have u0 : (Y.alloc (.cells #[.int .i64 (f : Int), .int .i64 (t : Int), .int .i64 1, .int .i64 1, .int .i64 0] 65)).cell? ⟨Y.heap.size, 0, none⟩ = some (.int .i64 (f : Int)) := by simp
            have u1 : (Y.alloc (.cells #[.int .i64 (f : Int), .int .i64 (t : Int), .int .i64 1, .int .i64 1, .int .i64 0] 65)).cell? ⟨Y.heap.size, 1, none⟩ = some (.int .i64 (t : Int)) := by simp
            have u2 : (Y.alloc (.cells #[.int .i64 (f : Int), .int .i64 (t : Int), .int .i64 1, .int .i64 1, .int .i64 0] 65)).cell? ⟨Y.heap.size, 2, none⟩ = some (.int .i64 (1)) := by simp
            have u3 : (Y.alloc (.cells #[.int .i64 (f : Int), .int .i64 (t : Int), .int .i64 1, .int .i64 1, .int .i64 0] 65)).cell? ⟨Y.heap.size, 3, none⟩ = some (.int .i64 (1)) := by simp
            have u4 : (Y.alloc (.cells #[.int .i64 (f : Int), .int .i64 (t : Int), .int .i64 1, .int .i64 1, .int .i64 0] 65)).cell? ⟨Y.heap.size, 4, none⟩ = some (.int .i64 (0)) := by simp
            have OWZ : Hid ((Y.alloc (.cells #[.int .i64 (f : Int), .int .i64 (t : Int), .int .i64 1, .int .i64 1, .int .i64 0] 65)).ownsRow wa.heap.size 65 5 (.slice xo k xc) k (ils (zs (wrs ns ls)) (k * 5))) := own_below OW7.out (below_one _ _)
            have BWZ : Hid (Below wa.heap.size wa (Y.alloc (.cells #[.int .i64 (f : Int), .int .i64 (t : Int), .int .i64 1, .int .i64 1, .int .i64 0] 65))) := bstep BW7.out (below_one _ _)
            clear a0 a1 a2 b0 b1 b2 OW7 BW7 hpx hqx
            generalize (Y.alloc (.cells #[.int .i64 (f : Int), .int .i64 (t : Int), .int .i64 1, .int .i64 1, .int .i64 0] 65)) = Z at u0 u1 u2 u3 u4 OWZ BWZ ⊢
            go_upto_region 6 with (at_builtin; refine wpList_app _ rfl _ _ 35 rfl wa.heap.size 65 i0 (.agg #[.int .i64 0, .int .i64 0, .int .i64 0, .int .i64 0, .int .i64 0]) 5 40 Tryd.underlying35 hi hz0 hz1 hz2 rfl (by decide) _ _ _ rfl (own_below OWZ.out (below_one _ _)) ⟨Z.heap.size, 0, none⟩ 1 1 [.int .i64 (f : Int), .int .i64 (t : Int), .int .i64 1, .int .i64 1, .int .i64 0] rfl rfl (five_new _ _ _ _ _ _ _) (by simp [Value.oneCell']) (by unfold maxLen; omega) (by omega) (bstep BWZ.out (below_one _ _)).size (by decide) ?_; intro v' w4 ho hgw hu; obtain ⟨oa, oc, rfl⟩ := own_op ho; rw [HNW.out, zs_more] at ho; have OG : Hid (w4.ownsRow wa.heap.size 65 5 (.slice oa (k + 1) oc) (k + 1) (ils (zs (wrs ns ls)) ((k + 1) * 5))) := ho; have BG : Hid (Below wa.heap.size wa w4) := (bstep BWZ.out (below_one _ _)).grown hgw (bstep BWZ.out (below_one _ _)).size (fun q hq => (World.ownsRow.lt OWZ.out q hq).1); clear hgw hu ho)
            go_wp2
            go_roundw
            case rel => exact ⟨k + 1, oa, oc, by go_num, by omega, rfl, OG.out, BG.out⟩
            case measure => simp [intOf]; omega
    · have hkm : m = k := by omega
      subst hkm
      go_wp2
      go_ret2
      exact ⟨_, m, true, rfl, own_base OW.out BA.out.size, BT.out, fun _ => ⟨rfl, rfl⟩, fun h => absurd HP.out h⟩

end Go.Proofs.YtiadfabhpagmpaaDoor
