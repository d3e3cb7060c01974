/- A node added to a draft. -/
import Derived.Test.YtiadfabhpagmpaaDoorPE
import Derived.Test.YtiadfabhpagmpaaDoorI1
import Derived.WalkKit
import Derived.WalkSpells
import Derived.WalkLawsBesides
import Derived.Deep.QuietTactic
import Derived.BigQuiet
import Derived.BigRegion
import Derived.Deep.Cut
import Derived.BigRegion
namespace Go.Proofs.YtiadfabhpagmpaaDoor
open Go.RowKit

theorem infoN : (Tryd.prog.info? 47).map (fun i => (i.zero, i.size, i.bytes)) = some (some (.agg #[.string ⟨#[]⟩, .int .i64 0, .int .i64 0]), 3, 32) := by kernel_rfl
theorem infoL : (Tryd.prog.info? 50).map (fun i => (i.zero, i.size, i.bytes)) = some (some (.agg #[.int .i64 0, .int .i64 0]), 2, 16) := by kernel_rfl

theorem three_new (w : World) (a b c : Value) (t : TypeId) : ∀ j u, [a, b, c][j]? = some u → (w.alloc (.cells #[a, b, c] t)).cell? ((⟨w.heap.size, 0, none⟩ : Addr).add j) = some u := by
  intro j u h
  match j, h with
  | 0, h => simp at h; subst h; simp [Addr.add]
  | 1, h => simp at h; subst h; simp [Addr.add]
  | 2, h => simp at h; subst h; simp [Addr.add]
  | n + 3, h => simp at h

theorem two_new (w : World) (a b : Value) (t : TypeId) : ∀ j u, [a, b][j]? = some u → (w.alloc (.cells #[a, b] t)).cell? ((⟨w.heap.size, 0, none⟩ : Addr).add j) = some u := by
  intro j u h
  match j, h with
  | 0, h => simp at h; subst h; simp [Addr.add]
  | 1, h => simp at h; subst h; simp [Addr.add]
  | n + 2, h => simp at h

/-- A copy of a node in a block. -/
structure Cn3 (W : World) (g : Nat) (x : Nd) : Prop where
  c0 : W.cell? ⟨g, 0, none⟩ = some (.string x.nm)
  c1 : W.cell? ⟨g, 1, none⟩ = some (.int .i64 x.kd)
  c2 : W.cell? ⟨g, 2, none⟩ = some (.int .i64 x.nn)

theorem Cn3.below {W W' : World} {g : Nat} {x : Nd} (h : Cn3 W g x) (hb : Below W.heap.size W W') : Cn3 W' g x := ⟨keepc hb h.c0, keepc hb h.c1, keepc hb h.c2⟩
theorem Cn3.new (W : World) (x : Nd) (t : TypeId) : Cn3 (W.alloc (.cells #[.string x.nm, .int .i64 x.kd, .int .i64 x.nn] t)) W.heap.size x := ⟨by simp, by simp, by simp⟩
theorem Cn3.lt {W : World} {g : Nat} {x : Nd} (h : Cn3 W g x) : g < W.heap.size := World.block_lt_of_cell? _ _ h.c0

theorem cn3_grown {W W' : World} {g : Nat} {x : Nd} {v : Value} (h : Cn3 W g x) (hg : W.grownBy W' v.ownBlock) (hv : ∀ k, v.ownBlock = some k → k < g) : Cn3 W' g x := by
  have hb : W'.heap[g]? = W.heap[g]? := hg.block g h.lt (fun e => absurd (hv g e.symm) (Nat.lt_irrefl _))
  exact ⟨(World.cell?_of_block hb).trans h.c0, (World.cell?_of_block hb).trans h.c1, (World.cell?_of_block hb).trans h.c2⟩

theorem cn3_set {W : World} {g d : Nat} {x : Nd} {v : Value} (h : Cn3 W g x) (hd : d < g) (j : Nat := 0) : Cn3 (W.setCell ⟨d, j, none⟩ v) g x := by
  have hb : (W.setCell ⟨d, j, none⟩ v).heap[g]? = W.heap[g]? := Below.heap_setCell _ _ _ _ (by show g ≠ d; omega)
  exact ⟨(World.cell?_of_block hb).trans h.c0, (World.cell?_of_block hb).trans h.c1, (World.cell?_of_block hb).trans h.c2⟩

theorem own_op {w : World} {B s n : Nat} {e : TypeId} {v : Value} {xs : List Value} (h : w.ownsRow B e s v n xs) : ∃ ao cap, v = .slice ao n cap := by
  rcases h.2 with ⟨rfl, rfl⟩ | ⟨g, cap, cur, rfl, _⟩
  · exact ⟨_, _, rfl⟩
  · exact ⟨_, _, rfl⟩

theorem own_one {w : World} {B sz n : Nat} {e : TypeId} {r : Value} {xs : List Value} (h : w.ownsRow B e sz r n xs) : r.oneCell' = true := by
  rcases h.2 with ⟨rfl, _⟩ | ⟨g, cap, cur, rfl, _⟩ <;> rfl

/-- A node may be added. -/
def Gdn (n : Nat) (ns : Nat → Nd) (x : Nd) : Prop := Ndok x ∧ n ≠ 20 ∧ ∀ i, i < n → (ns i).nm ≠ x.nm

set_option maxRecDepth 20000 in
set_option maxHeartbeats 8000000 in
theorem addNode_any {w0 w : World} {d : Nat} {v u : Value} {n m : Nat} {ns : Nat → Nd} {ls : Nat → Lk} (x : Nd) (hx : x.nm.size ≤ 1048576) (hK : Kds w) (hD : Dr w0 w d v u n m ns ls) (hn : n ≤ 20) :
    Calls Tryd.prog 24 #[.pointer (some ⟨d, 0, none⟩), x.v] w fun e w' => ∃ y, e = .returned y ∧ (Gdn n ns x → y = .nilIface ∧ ∃ v', Dr w0 w' d v' u (n + 1) m (pls ns n x) ls) ∧ (¬ Gdn n ns x → ∃ a b, y = .iface a b) ∧ Below w0.heap.size w0 w' := by
  obtain ⟨i0, hi, hz0, hz1, hz2⟩ := info_parts infoN
  have X0 : Hid (Cn3 (w.alloc (.cells #[.string x.nm, .int .i64 x.kd, .int .i64 x.nn] 47)) w.heap.size x) := Cn3.new w x _
  have B0 : Hid (Below w.heap.size w (w.alloc (.cells #[.string x.nm, .int .i64 x.kd, .int .i64 x.nn] 47))) := below_one w _
  have HK : Hid (Kds w) := hK
  have HD : Hid (Dr w0 w d v u n m ns ls) := hD
  have i1 := fun W (h : Kds W) => iNode_any x hx h
  clear hK hD
  by_cases h1 : Ndok x
  rotate_left
  · rw [decide_eq_false h1] at i1
    have HN : Hid (¬ Gdn n ns x) := fun h => h1 h.1
    clear h1
    go_enter Tryd.func24, Tryd.ntmps24
    go_upto_region 2 with (go_at_call 38; (with_reducible refine (i1 _ (HK.out.below B0.out)).mono ?_); rintro e w1 ⟨rfl, hb⟩; have B1 : Hid (Below w.heap.size w w1) := bstep B0.out hb; clear hb)
    obtain ⟨a, b, ce⟩ := (HK.out.below B1.out).er 0 (by omega)
    have hl : 0 < w1.heap.size := World.block_lt_of_cell? _ _ ce
    go_wp2
    go_ret
    exact ⟨_, rfl, fun h => absurd h HN.out, fun _ => ⟨_, _, rfl⟩, bstep HD.out.be B1.out⟩
  rw [decide_eq_true h1] at i1
  have H1 : Hid (Ndok x) := h1
  clear h1
  go_enter Tryd.func24, Tryd.ntmps24
  go_upto_region 3 with (go_at_call 38; (with_reducible refine (i1 _ (HK.out.below B0.out)).mono ?_); rintro e w1 ⟨rfl, hb⟩; have B1 : Hid (Below w.heap.size w w1) := bstep B0.out hb; have X1 : Hid (Cn3 w1 w.heap.size x) := X0.out.below hb; clear hb)
  have D1 : Hid (Dr w0 w1 d v u n m ns ls) := HD.out.call B1.out
  have K1 : Hid (Kds w1) := HK.out.below B1.out
  obtain ⟨ao, cap, rfl, hcap⟩ := (nl_of_own HD.out.o1).open
  have c0 := D1.out.c0
  have hd := D1.out.lt
  have hg := X1.out.lt
  have HVG : Hid (∀ k, (Value.slice ao n cap).ownBlock = some k → k < w.heap.size) := fun k hk => (World.ownsRow.lt HD.out.o1 k hk).2
  have HDG : Hid (d < w.heap.size) := HD.out.lt
  generalize w.heap.size = g at X1 hg HVG HDG ⊢
  by_cases h2 : n = 20
  · have HN : Hid (¬ Gdn n ns x) := fun h => h.2.1 h2
    obtain ⟨a, b, ce⟩ := K1.out.er 1 (by omega)
    have hl : 1 < w1.heap.size := World.block_lt_of_cell? _ _ ce
    go_wp2
    go_ret
    exact ⟨_, rfl, fun h => absurd h HN.out, fun _ => ⟨_, _, rfl⟩, D1.out.be⟩
  have hn20 : ¬ (n : Int) = 20 := by omega
  have nc0 := X1.out.c0
  go_upto_region 5 with fail
  have nx := nodeAt_any D1.out.c0 (nl_of_own D1.out.o1) (by omega) x.nm
  have H2 : Hid (n ≠ 20) := h2
  clear c0 h2
  go_upto_region 6 with (go_at_call 39; go_loud (refine nx.mono ?_); rintro e w2 ⟨j, rfl, hj, hb⟩; have B2 : Hid (Below w1.heap.size w1 w2) := hb; have D2 : Hid (Dr w0 w2 d (.slice ao n cap) u n m ns ls) := D1.out.call hb; have K2 : Hid (Kds w2) := K1.out.below hb; have X2 : Hid (Cn3 w2 g x) := X1.out.below hb; clear hb nx; rcases (show (Hid (∀ k, k < n → (ns k).nm ≠ x.nm) ∧ j = -1) ∨ (∃ k : Nat, j = (k : Int) ∧ Hid (k < n ∧ (ns k).nm = x.nm)) from hj.imp id (fun ⟨k, h1, h2, h3, _⟩ => ⟨k, h1, h2, h3⟩)) with ⟨HA, rfl⟩ | ⟨k, rfl, HA⟩)
  · have GD : Hid (Gdn n ns x) := ⟨H1.out, H2.out, HA.out⟩
    have hdl := D2.out.lt
    have hgl := X2.out.lt
    have c0 := D2.out.c0
    have fz := D2.out.fz 0
    obtain ⟨x0, x1, x2⟩ := X2.out
    refine wp_region_any (by kernel_rfl) ?_
    change wpAny _ _ _ _ _ _ _ (World.drew _)
    have DD : Hid (Dr w0 w2.drew d (.slice ao n cap) u n m ns ls) := D2.out.call ((Below.refl _ _).drew)
    have XX : Hid (Cn3 w2.drew g x) := X2.out.below ((Below.refl _ _).drew)
    generalize w2.drew = w3 at DD XX ⊢
    refine wpI_any (I := fun X => Cn3 X g x) _ _ _ _ ?_
    refine wpI_take (i := 0) (v := ?_) rfl (by kernel_rfl) (by kernel_rfl) (by kernel_rfl) (fun _ _ _ h => h) ⟨by rfl, ?_⟩ ?_
    rotate_left
    · intro X hI; go_simp; try go_bits
      try rw [if_pos (by omega)]
      try with_reducible rfl
    refine wpI_take (i := 1) (v := ?_) rfl (by kernel_rfl) (by kernel_rfl) (by kernel_rfl) (fun _ _ _ h => h) ⟨by rfl, ?_⟩ ?_
    rotate_left
    · intro X hI; go_simp; try go_bits
      try rw [if_pos (by omega)]
      try with_reducible rfl
    refine wpI_take (i := 2) (v := ?_) rfl (by kernel_rfl) (by kernel_rfl) (by kernel_rfl) (fun _ _ _ h => h) ⟨by rfl, ?_⟩ ?_
    rotate_left
    · intro X hI; go_simp; try go_bits
      try rw [if_pos (by omega)]
      try with_reducible rfl
    refine wpI_take (i := 3) (v := ?_) rfl (by kernel_rfl) (by kernel_rfl) (by kernel_rfl) (fun _ _ _ h => h) ⟨by rfl, ?_⟩ ?_
    rotate_left
    · intro X hI; go_simp; try go_bits
      try rw [if_pos (by omega)]
      try with_reducible rfl
    refine wpI_take (i := 4) (v := ?_) rfl (by kernel_rfl) (by kernel_rfl) (by kernel_rfl) (fun _ _ _ h => h) ⟨by rfl, ?_⟩ ?_
    rotate_left
    · intro X hI; go_simp; try go_bits
      try rw [if_pos (by omega)]
      try with_reducible rfl
    refine wpI_take (i := 6) (v := ?_) rfl (by kernel_rfl) (by kernel_rfl) (by kernel_rfl) (fun _ _ _ h => h) ⟨by rfl, ?_⟩ ?_
    rotate_left
    · intro X hI; obtain ⟨x0, x1, x2⟩ := hI; go_simp; try go_bits
      try rw [if_pos (by omega)]
      try with_reducible rfl
    have XA : Hid (Cn3 (w3.alloc (.cells #[.string x.nm, .int .i64 x.kd, .int .i64 x.nn] 47)) g x) := XX.out.below (below_one _ _)
    have DA : Hid (Dr w0 (w3.alloc (.cells #[.string x.nm, .int .i64 x.kd, .int .i64 x.nn] 47)) d (.slice ao n cap) u n m ns ls) := DD.out.call (below_one _ _)
    have cL := DD.out.c0
    refine wpI_two (i := 5) (j := 7) rfl rfl (by kernel_rfl) XX.out (by rfl) (by rfl) ?_ ?_
    · intro K hK
      go_simp
      refine hK _ _ ?_
      refine wpI_only (i := 7) rfl (by kernel_rfl) XX.out (by rfl) ?_
      intro K hK
      go_simp
      refine hK _ _ ?_
      refine wpI_only (i := 8) rfl (by kernel_rfl) XA.out (by rfl) ?_
      intro K hK
      refine wp_app _ _ _ 28 rfl w0.heap.size 47 i0 (.agg #[.string ⟨#[]⟩, .int .i64 0, .int .i64 0]) 3 32 Tryd.underlying28 hi hz0 hz1 hz2 rfl (by decide) _ _ _ rfl DA.out.o1 ⟨w3.heap.size, 0, none⟩ 1 1 [.string x.nm, .int .i64 x.kd, .int .i64 x.nn] rfl rfl (three_new _ _ _ _ _) (by simp [Value.oneCell']) (by unfold maxLen; omega) (by omega) DA.out.be.size (by decide) ?_
      intro v' w4 ho hgw hu
      obtain ⟨oa, oc, rfl⟩ := own_op ho
      have XG : Hid (Cn3 w4 g x) := cn3_grown XA.out hgw HVG.out
      rw [nd_more] at ho
      have DG : Hid (Dr w0 (w4.setCell ⟨d, 0, none⟩ (.slice oa (n + 1) oc)) d (.slice oa (n + 1) oc) u (n + 1) m (pls ns n x) ls) := DA.out.app1 ho hgw (hu.imp id And.left)
      have cd : w4.cell? ⟨d, 0, none⟩ = some (.slice ao n cap) := (World.cell?_of_block (hgw.block d DA.out.lt (fun e => DA.out.s1 e.symm))).trans DA.out.c0
      have fd : w4.frozen? ⟨d, 0, none⟩ = false := (World.frozen?_of_block (hgw.block d DA.out.lt (fun e => DA.out.s1 e.symm))).trans (DA.out.fz 0)
      have XS : Hid (Cn3 (w4.setCell ⟨d, 0, none⟩ (.slice oa (n + 1) oc)) g x) := cn3_set XG.out HDG.out
      clear hgw hu
      clear ho
      refine hK _ _ ?_
      refine wpI_take (i := 9) (v := ?_) rfl (by kernel_rfl) (by kernel_rfl) (by kernel_rfl) (fun _ _ _ h => h) ⟨by rfl, ?_⟩ ?_
      rotate_left
      · intro X hI; go_simp; try go_bits
        try rw [if_pos (by omega)]
        try with_reducible rfl
      refine wpI_take (i := 10) (v := ?_) rfl (by kernel_rfl) (by kernel_rfl) (by kernel_rfl) (fun _ _ _ h => h) ⟨by rfl, ?_⟩ ?_
      rotate_left
      · intro X hI; go_simp; try go_bits
        try rw [if_pos (by omega)]
        try with_reducible rfl
      refine wpI_take (i := 11) (v := ?_) rfl (by kernel_rfl) (by kernel_rfl) (by kernel_rfl) (fun _ _ _ h => h) ⟨by rfl, ?_⟩ ?_
      rotate_left
      · intro X hI; go_simp; try go_bits
        try rw [if_pos (by omega)]
        try with_reducible rfl
      refine wpI_only (i := 12) rfl (by kernel_rfl) XG.out (by rfl) ?_
      intro K hK
      go_simp
      refine hK _ _ ?_
      refine wpI_done XS.out (by kernel_rfl) ?_ _
      go_wp2
      go_ret
      exact ⟨_, rfl, fun _ => ⟨rfl, _, DG.out⟩, fun h => absurd GD.out h, DG.out.be⟩
    · intro K hK
      go_simp
      refine hK _ _ ?_
      have cL2 := DA.out.c0
      refine wpI_only (i := 5) rfl (by kernel_rfl) XA.out (by rfl) ?_
      intro K hK
      go_simp
      refine hK _ _ ?_
      refine wpI_only (i := 8) rfl (by kernel_rfl) XA.out (by rfl) ?_
      intro K hK
      refine wp_app _ _ _ 28 rfl w0.heap.size 47 i0 (.agg #[.string ⟨#[]⟩, .int .i64 0, .int .i64 0]) 3 32 Tryd.underlying28 hi hz0 hz1 hz2 rfl (by decide) _ _ _ rfl DA.out.o1 ⟨w3.heap.size, 0, none⟩ 1 1 [.string x.nm, .int .i64 x.kd, .int .i64 x.nn] rfl rfl (three_new _ _ _ _ _) (by simp [Value.oneCell']) (by unfold maxLen; omega) (by omega) DA.out.be.size (by decide) ?_
      intro v' w4 ho hgw hu
      obtain ⟨oa, oc, rfl⟩ := own_op ho
      have XG : Hid (Cn3 w4 g x) := cn3_grown XA.out hgw HVG.out
      rw [nd_more] at ho
      have DG : Hid (Dr w0 (w4.setCell ⟨d, 0, none⟩ (.slice oa (n + 1) oc)) d (.slice oa (n + 1) oc) u (n + 1) m (pls ns n x) ls) := DA.out.app1 ho hgw (hu.imp id And.left)
      have cd : w4.cell? ⟨d, 0, none⟩ = some (.slice ao n cap) := (World.cell?_of_block (hgw.block d DA.out.lt (fun e => DA.out.s1 e.symm))).trans DA.out.c0
      have fd : w4.frozen? ⟨d, 0, none⟩ = false := (World.frozen?_of_block (hgw.block d DA.out.lt (fun e => DA.out.s1 e.symm))).trans (DA.out.fz 0)
      have XS : Hid (Cn3 (w4.setCell ⟨d, 0, none⟩ (.slice oa (n + 1) oc)) g x) := cn3_set XG.out HDG.out
      clear hgw hu
      clear ho
      refine hK _ _ ?_
      refine wpI_take (i := 9) (v := ?_) rfl (by kernel_rfl) (by kernel_rfl) (by kernel_rfl) (fun _ _ _ h => h) ⟨by rfl, ?_⟩ ?_
      rotate_left
      · intro X hI; go_simp; try go_bits
        try rw [if_pos (by omega)]
        try with_reducible rfl
      refine wpI_take (i := 10) (v := ?_) rfl (by kernel_rfl) (by kernel_rfl) (by kernel_rfl) (fun _ _ _ h => h) ⟨by rfl, ?_⟩ ?_
      rotate_left
      · intro X hI; go_simp; try go_bits
        try rw [if_pos (by omega)]
        try with_reducible rfl
      refine wpI_take (i := 11) (v := ?_) rfl (by kernel_rfl) (by kernel_rfl) (by kernel_rfl) (fun _ _ _ h => h) ⟨by rfl, ?_⟩ ?_
      rotate_left
      · intro X hI; go_simp; try go_bits
        try rw [if_pos (by omega)]
        try with_reducible rfl
      refine wpI_only (i := 12) rfl (by kernel_rfl) XG.out (by rfl) ?_
      intro K hK
      go_simp
      refine hK _ _ ?_
      refine wpI_done XS.out (by kernel_rfl) ?_ _
      go_wp2
      go_ret
      exact ⟨_, rfl, fun _ => ⟨rfl, _, DG.out⟩, fun h => absurd GD.out h, DG.out.be⟩
  · have HN : Hid (¬ Gdn n ns x) := fun h => h.2.2 k HA.out.1 HA.out.2
    obtain ⟨a, b, ce⟩ := K2.out.er 2 (by omega)
    have hl : 2 < w2.heap.size := World.block_lt_of_cell? _ _ ce
    go_wp2
    go_ret
    exact ⟨_, rfl, fun h => absurd h HN.out, fun _ => ⟨_, _, rfl⟩, D2.out.be⟩

end Go.Proofs.YtiadfabhpagmpaaDoor
