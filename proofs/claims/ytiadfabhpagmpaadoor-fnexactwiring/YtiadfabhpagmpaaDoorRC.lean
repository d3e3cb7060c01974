/- Wiring: the program. -/
import Derived.Test.YtiadfabhpagmpaaDoorRB
import Derived.Test.YtiadfabhpagmpaaDoorPH
import Derived.WalkKit
import Derived.WalkSpells
import Derived.WalkLawsBesides
import Derived.Deep.QuietTactic
import Derived.BigQuiet
import Derived.BigRegion
import Derived.Deep.Cut
import Derived.BigRegion
namespace Go.Proofs.YtiadfabhpagmpaaDoor
open Go.RowKit

/-- The wires of a plan. -/
def wrs (ns : Nat → Nd) (ls : Nat → Lk) : Nat → Wr := fun i => wrf (ls i) (ns (ls i).fr.toNat) (ns (ls i).to.toNat)

theorem infoW : (Tryd.prog.info? 65).map (fun i => (i.zero, i.size, i.bytes)) = some (some (.agg #[.int .i64 0, .int .i64 0, .int .i64 0, .int .i64 0, .int .i64 0]), 5, 40) := by kernel_rfl

theorem zs_more (f : Nat → Wr) (k : Nat) : ils (zs f) (k * 5) ++ [.int .i64 (f k).fr, .int .i64 (f k).to, .int .i64 (f k).gi, .int .i64 (f k).ta, .int .i64 (f k).ha] = ils (zs f) ((k + 1) * 5) := by
  rw [show (k + 1) * 5 = k * 5 + 1 + 1 + 1 + 1 + 1 by omega, ils_snoc, ils_snoc, ils_snoc, ils_snoc, ils_snoc]
  rw [show zs f (k * 5) = (f k).n 0 from zs_at f k 0 (by omega), show zs f (k * 5 + 1) = (f k).n 1 from zs_at f k 1 (by omega), show zs f (k * 5 + 1 + 1) = (f k).n 2 from zs_at f k 2 (by omega), show zs f (k * 5 + 1 + 1 + 1) = (f k).n 3 from zs_at f k 3 (by omega), show zs f (k * 5 + 1 + 1 + 1 + 1) = (f k).n 4 from zs_at f k 4 (by omega)]
  simp [Wr.n]

theorem five_new (w : World) (a b c d e : Value) (t : TypeId) : ∀ j u, [a, b, c, d, e][j]? = some u → (w.alloc (.cells #[a, b, c, d, e] t)).cell? ((⟨w.heap.size, 0, none⟩ : Addr).add j) = some u := by
  intro j u h
  match j, h with
  | 0, h => simp at h; subst h; simp [Addr.add]
  | 1, h => simp at h; subst h; simp [Addr.add]
  | 2, h => simp at h; subst h; simp [Addr.add]
  | 3, h => simp at h; subst h; simp [Addr.add]
  | 4, h => simp at h; subst h; simp [Addr.add]
  | n + 5, h => simp at h

/-- What the round reads. -/
def Rdy (p g nb noff n nc f t : Nat) (a b : Nd) (X : World) : Prop := X.cell? ⟨p, 0, none⟩ = some (.slice (some ⟨nb, noff, none⟩) n nc) ∧ X.cell? ⟨nb, noff + f * 3, none⟩ = some (.string a.nm) ∧ X.cell? ⟨nb, noff + f * 3 + 1, none⟩ = some (.int .i64 a.kd) ∧ X.cell? ⟨nb, noff + f * 3 + 2, none⟩ = some (.int .i64 a.nn) ∧ X.cell? ⟨nb, noff + t * 3, none⟩ = some (.string b.nm) ∧ X.cell? ⟨nb, noff + t * 3 + 1, none⟩ = some (.int .i64 b.kd) ∧ X.cell? ⟨nb, noff + t * 3 + 2, none⟩ = some (.int .i64 b.nn) ∧ X.cell? ⟨g, 0, none⟩ = some (.int .i64 (f : Int)) ∧ X.cell? ⟨g, 1, none⟩ = some (.int .i64 (t : Int))

theorem Rdy.below {p g nb noff n nc f t : Nat} {a b : Nd} {X Y : World} (h : Rdy p g nb noff n nc f t a b X) (hb : Below X.heap.size X Y) : Rdy p g nb noff n nc f t a b Y := by
  obtain ⟨h0, h1, h2, h3, h4, h5, h6, h7, h8⟩ := h
  exact ⟨keepc hb h0, keepc hb h1, keepc hb h2, keepc hb h3, keepc hb h4, keepc hb h5, keepc hb h6, keepc hb h7, keepc hb h8⟩

theorem keepg {W w1 : World} {row : Option Nat} (hg : W.grownBy w1 row) {a : Addr} {v : Value} (hne : row ≠ some a.block) (h : W.cell? a = some v) : w1.cell? a = some v := (World.cell?_of_block (hg.block a.block (World.block_lt_of_cell? W _ h) (by first | exact hne | exact fun e => hne e.symm))).trans h

theorem Rdy.grown {p g nb noff n nc f t : Nat} {a b : Nd} {X Y : World} {row : Option Nat} (h : Rdy p g nb noff n nc f t a b X) (hg : X.grownBy Y row) (hr : row ≠ some g ∧ row ≠ some p ∧ row ≠ some nb) : Rdy p g nb noff n nc f t a b Y := by
  obtain ⟨h0, h1, h2, h3, h4, h5, h6, h7, h8⟩ := h
  exact ⟨keepg hg hr.2.1 h0, keepg hg hr.2.2 h1, keepg hg hr.2.2 h2, keepg hg hr.2.2 h3, keepg hg hr.2.2 h4, keepg hg hr.2.2 h5, keepg hg hr.2.2 h6, keepg hg hr.1 h7, keepg hg hr.1 h8⟩

set_option maxRecDepth 20000 in
set_option maxHeartbeats 8000000 in
theorem iWir_any {w : World} {v u : Value} {n m : Nat} {ns : Nat → Nd} {ls : Nat → Lk} (hK : Kds w) (hv : Nl w v n ns) (hu : Ll w u m ls) (hs : ∀ i, i < n → (ns i).nm.size ≤ 1048576) :
    Calls Tryd.prog 11 #[.agg #[v, u]] w fun e w' => ∃ (x : Value) (k : Nat) (d : Bool), e = .returned (.tuple #[x, .bool d]) ∧ w'.ownsRow w.heap.size 65 5 x k (ils (zs (wrs ns ls)) (k * 5)) ∧ Below w.heap.size w w' ∧ (Pok n m ns ls → k = m ∧ d = true) ∧ (¬ Pok n m ns ls → k = 0 ∧ d = false) := by
  obtain ⟨i0, hi, hz0, hz1, hz2⟩ := info_parts infoW
  obtain ⟨ao, cap, rfl, hcap⟩ := hv.open
  obtain ⟨bo, cap2, rfl, hcap2⟩ := hu.open
  have HK : Hid (Kds w) := hK
  have HV : Hid (Nl w (.slice ao n cap) n ns) := hv
  have HL : Hid (Ll w (.slice bo m cap2) m ls) := hu
  have HS : Hid (∀ i, i < n → (ns i).nm.size ≤ 1048576) := hs
  clear hK hv hu hs
  obtain ⟨wa, hwa⟩ : ∃ wa, wa = w.alloc (.cells #[.slice ao n cap, .slice bo m cap2] 31) := ⟨_, rfl⟩
  obtain ⟨wb, hwb⟩ : ∃ wb, wb = wa.alloc (.cells #[] 65) := ⟨_, rfl⟩
  have sa : wa.heap.size = w.heap.size + 1 := by rw [hwa]; simp
  have BA : Hid (Below w.heap.size w wa) := by rw [hwa]; exact below_one _ _
  have BB : Hid (Below wa.heap.size wa wb) := by rw [hwb]; exact below_one _ _
  have PA0 : Hid (wa.cell? ⟨w.heap.size, 0, none⟩ = some (.slice ao n cap)) := by show wa.cell? _ = _; rw [hwa]; simp
  have PA1 : Hid (wa.cell? ⟨w.heap.size, 1, none⟩ = some (.slice bo m cap2)) := by show wa.cell? _ = _; rw [hwa]; simp
  have O0 : Hid (wb.ownsRow wa.heap.size 65 5 (.slice (some ⟨wa.heap.size, 0, none⟩) 0 0) 0 (ils (zs (wrs ns ls)) (0 * 5))) := by rw [hwb]; exact own_empty wa 65 5
  have p0 := keepc BB.out PA0.out
  have p1 := keepc BB.out PA1.out
  have iP := (iPlan_any (HK.out.below (bstep BA.out BB.out)) (HV.out.below (bstep BA.out BB.out)) (HL.out.below (bstep BA.out BB.out)) HS.out)
  by_cases hp : Pok n m ns ls
  rotate_left
  · have HP : Hid (¬ Pok n m ns ls) := hp
    clear hp
    go_enter Tryd.func11, Tryd.ntmps11
    go_upto_region 2 with fail
    rw [← hwa, ← sa, ← hwb]
    clear hwa hwb sa
    have hpg := World.block_lt_of_cell? _ _ p0
    go_wp2_with (go_at_call 8; (with_reducible refine iP.mono ?_); rintro e w2 ⟨r, rfl, hr, hb⟩; obtain rfl : r = false := (match r, hr with | false, _ => rfl | true, hr => absurd (hr.1 rfl) HP.out); have B2 : Hid (Below wa.heap.size wa w2) := bstep BB.out hb; have O2 := own_below O0.out hb; have O2 : Hid (w2.ownsRow wa.heap.size 65 5 (.slice (some ⟨wa.heap.size, 0, none⟩) 0 0) 0 (ils (zs (wrs ns ls)) (0 * 5))) := O2; clear hb hr)
    go_ret2
    exact ⟨_, 0, false, rfl, own_base O2.out BA.out.size, bstep BA.out B2.out, fun h => absurd h HP.out, fun _ => ⟨rfl, rfl⟩⟩
  have HP : Hid (Pok n m ns ls) := hp
  have hn20 : n ≤ 20 := hp.1.2
  have hm40 : m ≤ 40 := hp.2.1
  clear hp
  go_enter Tryd.func11, Tryd.ntmps11
  go_upto_region 2 with fail
  rw [← hwa, ← sa, ← hwb]
  have HSA : Hid (wa.heap.size = w.heap.size + 1) := sa
  clear hwa hwb sa
  have hpg := World.block_lt_of_cell? _ _ p0
  go_upto_region 4 with (go_at_call 8; (with_reducible refine iP.mono ?_); rintro e w2 ⟨r, rfl, hr, hb⟩; obtain rfl : r = true := hr.2 HP.out; have B2 : Hid (Below wa.heap.size wa w2) := bstep BB.out hb; have O2 := own_below O0.out hb; have O2 : Hid (w2.ownsRow wa.heap.size 65 5 (.slice (some ⟨wa.heap.size, 0, none⟩) 0 0) 0 (ils (zs (wrs ns ls)) (0 * 5))) := O2; clear hb hr)
  clear iP p0 p1 hpg
  have p1 := keepc B2.out PA1.out
  have hpg := World.block_lt_of_cell? _ _ p1
  go_upto_region 5 with fail
  clear p1 hpg
  go_loopw [15, 4, 6] (fun i x _ wr => ∃ (k : Nat) (xo : Option Addr) (xc : Nat), i = .int .i64 k ∧ k ≤ m ∧ x = .slice xo k xc ∧ Hid (wr.ownsRow wa.heap.size 65 5 (.slice xo k xc) k (ils (zs (wrs ns ls)) (k * 5))) ∧ Hid (Below wa.heap.size wa wr)) (fun i _ _ _ => m - (intOf i).toNat)
  case atStart => exact ⟨0, _, _, rfl, by omega, rfl, O2.out, B2.out⟩
  case round =>
    clear O2 B2
    obtain ⟨k, xo, xc, rfl, hk, rfl, OW, BW⟩ := hrel
    have BT : Hid (Below w.heap.size w wr) := bstep BA.out BW.out
    by_cases h1 : k < m
    · have p0 := keepc BW.out PA0.out
      obtain ⟨b, off, rfl, hlt, hcell⟩ := (HL.out.below BT.out).cells (by omega)
      have hlb : b < w.heap.size := by
        obtain ⟨b', off', e', h', _⟩ := HL.out.cells (by omega)
        injection e' with e'
        injection e' with e1 _ _
        omega
      obtain ⟨c0, c1⟩ := hcell k h1
      have hgd := HP.out.2.2.2.1 k h1
      clear hcell
      obtain ⟨f, hf⟩ : ∃ f : Nat, (ls k).fr = (f : Int) := ⟨(ls k).fr.toNat, by have := hgd.1; omega⟩
      obtain ⟨t, ht⟩ : ∃ t : Nat, (ls k).to = (t : Int) := ⟨(ls k).to.toNat, by have := hgd.2.1; omega⟩
      have hfn : f < n := by have := hgd.1; omega
      have htn : t < n := by have := hgd.2.1; omega
      obtain ⟨nb, noff, rfl, hnl, hnc⟩ := HV.out.cells (by omega)
      obtain ⟨f0, f1, f2⟩ := hnc f hfn
      obtain ⟨t0, t1, t2⟩ := hnc t htn
      have iW := fun W => wireOf_any (ls k) (ns f) (ns t) W
      obtain ⟨r, hr⟩ : ∃ r, r = wrf (ls k) (ns f) (ns t) := ⟨_, rfl⟩
      rw [← hr] at iW
      have iW : ∀ W, Calls Tryd.prog 29 #[.agg #[.int .i64 (f : Int), .int .i64 (t : Int)], .agg #[.string (ns f).nm, .int .i64 (ns f).kd, .int .i64 (ns f).nn], .agg #[.string (ns t).nm, .int .i64 (ns t).kd, .int .i64 (ns t).nn]] W fun e w' => e = .returned (.agg #[.int .i64 r.fr, .int .i64 r.to, .int .i64 r.gi, .int .i64 r.ta, .int .i64 r.ha]) ∧ Below W.heap.size W w' := fun W => by
        have h := iW W
        unfold Lk.v at h
        rw [hf, ht] at h
        exact h
      have HWR : Hid (wrs ns ls k = wrf (ls k) (ns f) (ns t)) := by
        show wrf (ls k) (ns (ls k).fr.toNat) (ns (ls k).to.toNat) = _
        rw [hf, ht]
        rfl
      have HRR : Hid (wrs ns ls k = r) := HWR.out.trans hr.symm
      clear hr HWR
      have IW : Hid (∀ W, Calls Tryd.prog 29 #[.agg #[.int .i64 (f : Int), .int .i64 (t : Int)], .agg #[.string (ns f).nm, .int .i64 (ns f).kd, .int .i64 (ns f).nn], .agg #[.string (ns t).nm, .int .i64 (ns t).kd, .int .i64 (ns t).nn]] W fun e w' => e = .returned (.agg #[.int .i64 r.fr, .int .i64 r.to, .int .i64 r.gi, .int .i64 r.ta, .int .i64 r.ha]) ∧ Below W.heap.size W w') := iW
      clear iW
      rw [hf] at c0
      rw [ht] at c1
      have f0 := keepc BT.out f0
      have f1 := keepc BT.out f1
      have f2 := keepc BT.out f2
      have t0 := keepc BT.out t0
      have t1 := keepc BT.out t1
      have t2 := keepc BT.out t2
      clear hnc hgd
      have HRB : Hid (∀ q, (Value.slice xo k xc).ownBlock = some q → wa.heap.size ≤ q ∧ q < wr.heap.size) := fun q hq => ⟨(World.ownsRow.lt OW.out q hq).1, (World.ownsRow.lt OW.out q hq).2⟩
      have hlw : b < wr.heap.size := hlt
      have hsw : w.heap.size < wr.heap.size := World.block_lt_of_cell? _ _ p0
      go_upto_region 7 with fail
      have g0 : (wr.alloc (.cells #[.int .i64 (f : Int), .int .i64 (t : Int)] 50)).cell? ⟨wr.heap.size, 0, none⟩ = some (.int .i64 (f : Int)) := by simp
      have g1 : (wr.alloc (.cells #[.int .i64 (f : Int), .int .i64 (t : Int)] 50)).cell? ⟨wr.heap.size, 1, none⟩ = some (.int .i64 (t : Int)) := by simp
      have bw : Below wr.heap.size wr (wr.alloc (.cells #[.int .i64 (f : Int), .int .i64 (t : Int)] 50)) := below_one _ _
      have OW7 : Hid ((wr.alloc (.cells #[.int .i64 (f : Int), .int .i64 (t : Int)] 50)).ownsRow wa.heap.size 65 5 (.slice xo k xc) k (ils (zs (wrs ns ls)) (k * 5))) := own_below OW.out bw
      have BW7 : Hid (Below wa.heap.size wa (wr.alloc (.cells #[.int .i64 (f : Int), .int .i64 (t : Int)] 50))) := bstep BW.out bw
      have hgs : wr.heap.size < (wr.alloc (.cells #[.int .i64 (f : Int), .int .i64 (t : Int)] 50)).heap.size := by simp
      have p0 := keepc bw p0
      have f0 := keepc bw f0
      have f1 := keepc bw f1
      have f2 := keepc bw f2
      have t0 := keepc bw t0
      have t1 := keepc bw t1
      have t2 := keepc bw t2
      clear bw
      obtain ⟨g, hgg⟩ : ∃ g, g = wr.heap.size := ⟨_, rfl⟩
      rw [← hgg] at g0 g1 hgs HRB ⊢
      clear hgg
      generalize wr.alloc (.cells #[.int .i64 (f : Int), .int .i64 (t : Int)] 50) = W at g0 g1 OW7 BW7 hgs p0 f0 f1 f2 t0 t1 t2 ⊢
      have hnbw : nb < w.heap.size := hnl
      have SAFE : Hid ((Value.slice xo k xc).ownBlock ≠ some g ∧ (Value.slice xo k xc).ownBlock ≠ some w.heap.size ∧ (Value.slice xo k xc).ownBlock ≠ some nb) := by
        have hs1 := HSA.out
        refine ⟨fun e => ?_, fun e => ?_, fun e => ?_⟩
        · have := HRB.out _ e; omega
        · have := HRB.out _ e; omega
        · have := HRB.out _ e; omega
      have RD : Hid (Rdy w.heap.size g nb noff n cap f t (ns f) (ns t) W) := ⟨p0, f0, f1, f2, t0, t1, t2, g0, g1⟩
      have hmk : k + 1 ≤ m := by omega
      clear p0 f0 f1 f2 t0 t1 t2 g0 g1 hnbw
      refine wp_region_any (by kernel_rfl) ?_
      change wpAny _ _ _ _ _ _ _ (World.drew _)
      have RD : Hid (Rdy w.heap.size g nb noff n cap f t (ns f) (ns t) W.drew) := RD.out.below ((Below.refl _ _).drew)
      have OW7 : Hid (W.drew.ownsRow wa.heap.size 65 5 (.slice xo k xc) k (ils (zs (wrs ns ls)) (k * 5))) := own_below OW7.out ((Below.refl _ _).drew)
      have BW7 : Hid (Below wa.heap.size wa W.drew) := bstep BW7.out ((Below.refl _ _).drew)
      generalize W.drew = W at RD OW7 BW7 ⊢
      refine wpI_any (I := Rdy w.heap.size g nb noff n cap f t (ns f) (ns t)) _ _ _ _ ?_
      refine wpI_take (i := 0) (v := ?_) rfl (by kernel_rfl) (by kernel_rfl) (by kernel_rfl) (fun _ _ _ h => h) ⟨by rfl, ?_⟩ ?_
      rotate_left
      · intro X hI; obtain ⟨e0, e1, e2, e3, e4, e5, e6, e7, e8⟩ := hI; go_simp; try go_bits
        try rw [if_pos (by omega)]
        try with_reducible rfl
      refine wpI_take (i := 1) (v := ?_) rfl (by kernel_rfl) (by kernel_rfl) (by kernel_rfl) (fun _ _ _ h => h) ⟨by rfl, ?_⟩ ?_
      rotate_left
      · intro X hI; obtain ⟨e0, e1, e2, e3, e4, e5, e6, e7, e8⟩ := hI; go_simp; try go_bits
        try rw [if_pos (by omega)]
        try with_reducible rfl
      refine wpI_take (i := 2) (v := ?_) rfl (by kernel_rfl) (by kernel_rfl) (by kernel_rfl) (fun _ _ _ h => h) ⟨by rfl, ?_⟩ ?_
      rotate_left
      · intro X hI; obtain ⟨e0, e1, e2, e3, e4, e5, e6, e7, e8⟩ := hI; go_simp; try go_bits
        try rw [if_pos (by omega)]
        try with_reducible rfl
      refine wpI_take (i := 3) (v := ?_) rfl (by kernel_rfl) (by kernel_rfl) (by kernel_rfl) (fun _ _ _ h => h) ⟨by rfl, ?_⟩ ?_
      rotate_left
      · intro X hI; obtain ⟨e0, e1, e2, e3, e4, e5, e6, e7, e8⟩ := hI; go_simp; try go_bits
        try rw [if_pos (by omega)]
        try with_reducible rfl
      go_simp
      refine wpI_take (i := 4) (v := ?_) rfl (by kernel_rfl) (by kernel_rfl) (by kernel_rfl) (fun _ _ _ h => h) ⟨by rfl, ?_⟩ ?_
      rotate_left
      · intro X hI; obtain ⟨e0, e1, e2, e3, e4, e5, e6, e7, e8⟩ := hI; go_simp; try go_bits
        try rw [if_pos (by omega)]
        try with_reducible rfl
      refine wpI_take (i := 5) (v := ?_) rfl (by kernel_rfl) (by kernel_rfl) (by kernel_rfl) (fun _ _ _ h => h) ⟨by rfl, ?_⟩ ?_
      rotate_left
      · intro X hI; obtain ⟨e0, e1, e2, e3, e4, e5, e6, e7, e8⟩ := hI; go_simp; try go_bits
        try rw [if_pos (by omega)]
        try with_reducible rfl
      refine wpI_take (i := 6) (v := ?_) rfl (by kernel_rfl) (by kernel_rfl) (by kernel_rfl) (fun _ _ _ h => h) ⟨by rfl, ?_⟩ ?_
      rotate_left
      · intro X hI; obtain ⟨e0, e1, e2, e3, e4, e5, e6, e7, e8⟩ := hI; go_simp; try go_bits
        try rw [if_pos (by omega)]
        try with_reducible rfl
      refine wpI_take (i := 7) (v := ?_) rfl (by kernel_rfl) (by kernel_rfl) (by kernel_rfl) (fun _ _ _ h => h) ⟨by rfl, ?_⟩ ?_
      rotate_left
      · intro X hI; obtain ⟨e0, e1, e2, e3, e4, e5, e6, e7, e8⟩ := hI; go_simp; try go_bits
        try rw [if_pos (by omega)]
        try with_reducible rfl
      go_simp
      refine wpI_take (i := 8) (v := ?_) rfl (by kernel_rfl) (by kernel_rfl) (by kernel_rfl) (fun _ _ _ h => h) ⟨by rfl, ?_⟩ ?_
      rotate_left
      · intro X hI; obtain ⟨e0, e1, e2, e3, e4, e5, e6, e7, e8⟩ := hI; go_simp; try go_bits
        try rw [if_pos (by omega)]
        try with_reducible rfl
      refine wpI_take (i := 9) (v := ?_) rfl (by kernel_rfl) (by kernel_rfl) (by kernel_rfl) (fun _ _ _ h => h) ⟨by rfl, ?_⟩ ?_
      rotate_left
      · intro X hI; obtain ⟨e0, e1, e2, e3, e4, e5, e6, e7, e8⟩ := hI; go_simp; try go_bits
        try rw [if_pos (by omega)]
        try with_reducible rfl
      refine wpI_take (i := 10) (v := ?_) rfl (by kernel_rfl) (by kernel_rfl) (by kernel_rfl) (fun _ _ _ h => h) ⟨by rfl, ?_⟩ ?_
      rotate_left
      · intro X hI; obtain ⟨e0, e1, e2, e3, e4, e5, e6, e7, e8⟩ := hI; go_simp; try go_bits
        try rw [if_pos (by omega)]
        try with_reducible rfl
      refine wpI_take (i := 11) (v := ?_) rfl (by kernel_rfl) (by kernel_rfl) (by kernel_rfl) (fun _ _ _ h => h) ⟨by rfl, ?_⟩ ?_
      rotate_left
      · intro X hI; obtain ⟨e0, e1, e2, e3, e4, e5, e6, e7, e8⟩ := hI; go_simp; try go_bits
        try rw [if_pos (by omega)]
        try with_reducible rfl
      go_simp
      refine wpI_take (i := 12) (v := ?_) rfl (by kernel_rfl) (by kernel_rfl) (by kernel_rfl) (fun _ _ _ h => h) ⟨by rfl, ?_⟩ ?_
      rotate_left
      · intro X hI; obtain ⟨e0, e1, e2, e3, e4, e5, e6, e7, e8⟩ := hI; go_simp; try go_bits
        try rw [if_pos (by omega)]
        try with_reducible rfl
      refine wpI_take (i := 13) (v := ?_) rfl (by kernel_rfl) (by kernel_rfl) (by kernel_rfl) (fun _ _ _ h => h) ⟨by rfl, ?_⟩ ?_
      rotate_left
      · intro X hI; obtain ⟨e0, e1, e2, e3, e4, e5, e6, e7, e8⟩ := hI; go_simp; try go_bits
        try rw [if_pos (by omega)]
        try with_reducible rfl
      refine wpI_only (i := 14) rfl (by kernel_rfl) RD.out (by rfl) ?_
      intro K hK
      go_simp
      have iw := IW.out W
      go_wp2_with (go_at_call 29; (with_reducible refine iw.mono ?_); rintro e w5 ⟨rfl, hb5⟩; have R5 : Hid (Rdy w.heap.size g nb noff n cap f t (ns f) (ns t) w5) := RD.out.below hb5; have O5 : Hid (w5.ownsRow wa.heap.size 65 5 (.slice xo k xc) k (ils (zs (wrs ns ls)) (k * 5))) := own_below OW7.out hb5; have B5 : Hid (Below wa.heap.size wa w5) := bstep BW7.out hb5; clear hb5 iw)
      clear RD OW7 BW7
      refine wpI_only (i := 15) rfl (by kernel_rfl) R5.out (by rfl) ?_
      intro K hK
      go_simp
      refine hK _ _ ?_
      have R6 : Hid (Rdy w.heap.size g nb noff n cap f t (ns f) (ns t) (w5.alloc (.cells #[.int .i64 r.fr, .int .i64 r.to, .int .i64 r.gi, .int .i64 r.ta, .int .i64 r.ha] 65))) := R5.out.below (below_one _ _)
      have O6 : Hid ((w5.alloc (.cells #[.int .i64 r.fr, .int .i64 r.to, .int .i64 r.gi, .int .i64 r.ta, .int .i64 r.ha] 65)).ownsRow wa.heap.size 65 5 (.slice xo k xc) k (ils (zs (wrs ns ls)) (k * 5))) := own_below O5.out (below_one _ _)
      have B6 : Hid (Below wa.heap.size wa (w5.alloc (.cells #[.int .i64 r.fr, .int .i64 r.to, .int .i64 r.gi, .int .i64 r.ta, .int .i64 r.ha] 65))) := bstep B5.out (below_one _ _)
      refine wpI_only (i := 16) rfl (by kernel_rfl) R6.out (by rfl) ?_
      intro K hK
      refine wp_app _ _ _ 35 rfl wa.heap.size 65 i0 (.agg #[.int .i64 0, .int .i64 0, .int .i64 0, .int .i64 0, .int .i64 0]) 5 40 Tryd.underlying35 hi hz0 hz1 hz2 rfl (by decide) _ _ _ rfl O6.out ⟨w5.heap.size, 0, none⟩ 1 1 [.int .i64 r.fr, .int .i64 r.to, .int .i64 r.gi, .int .i64 r.ta, .int .i64 r.ha] rfl rfl (five_new _ _ _ _ _ _ _) (by simp [Value.oneCell']) (by unfold maxLen; omega) (by omega) B6.out.size (by decide) ?_
      intro v' w4 ho hgw hu
      obtain ⟨oa, oc, rfl⟩ := own_op ho
      have RG : Hid (Rdy w.heap.size g nb noff n cap f t (ns f) (ns t) w4) := R6.out.grown hgw SAFE.out
      rw [← HRR.out, zs_more] at ho
      have OG : Hid (w4.ownsRow wa.heap.size 65 5 (.slice oa (k + 1) oc) (k + 1) (ils (zs (wrs ns ls)) ((k + 1) * 5))) := ho
      have BG : Hid (Below wa.heap.size wa w4) := B6.out.grown hgw B6.out.size (fun q hq => (HRB.out q hq).1)
      clear hgw hu ho R6 O6 B6 R5 O5 B5
      refine hK _ _ ?_
      refine wpI_only (i := 17) rfl (by kernel_rfl) RG.out (by rfl) ?_
      intro K hK
      go_simp
      refine hK _ _ ?_
      refine wpI_done RG.out (by kernel_rfl) ?_ _
      go_wp2
      go_roundw
      case rel => exact ⟨k + 1, oa, oc, by go_num, by omega, rfl, OG.out, BG.out⟩
      case measure => simp [intOf]; omega
    · have hkm : m = k := by omega
      subst hkm
      go_wp2
      go_ret2
      exact ⟨_, m, true, rfl, own_base OW.out BA.out.size, BT.out, fun _ => ⟨rfl, rfl⟩, fun h => absurd HP.out h⟩

end Go.Proofs.YtiadfabhpagmpaaDoor
