/- A link added to a draft. -/
import Derived.Test.YtiadfabhpagmpaaDoorPF
import Derived.WalkKit
import Derived.WalkSpells
import Derived.WalkLawsBesides
import Derived.Deep.QuietTactic
import Derived.BigQuiet
import Derived.BigRegion
import Derived.Deep.Cut
import Derived.BigRegion
namespace Go.Proofs.YtiadfabhpagmpaaDoor
open Go.RowKit

/-- A copy of a link in a block. -/
structure Cl2 (W : World) (g : Nat) (x : Lk) : Prop where
  c0 : W.cell? ⟨g, 0, none⟩ = some (.int .i64 x.fr)
  c1 : W.cell? ⟨g, 1, none⟩ = some (.int .i64 x.to)

theorem Cl2.below {W W' : World} {g : Nat} {x : Lk} (h : Cl2 W g x) (hb : Below W.heap.size W W') : Cl2 W' g x := ⟨keepc hb h.c0, keepc hb h.c1⟩
theorem Cl2.new (W : World) (x : Lk) (t : TypeId) : Cl2 (W.alloc (.cells #[.int .i64 x.fr, .int .i64 x.to] t)) W.heap.size x := ⟨by simp, by simp⟩
theorem Cl2.lt {W : World} {g : Nat} {x : Lk} (h : Cl2 W g x) : g < W.heap.size := World.block_lt_of_cell? _ _ h.c0

theorem cl2_grown {W W' : World} {g : Nat} {x : Lk} {v : Value} (h : Cl2 W g x) (hg : W.grownBy W' v.ownBlock) (hv : ∀ k, v.ownBlock = some k → k < g) : Cl2 W' g x := by
  have hb : W'.heap[g]? = W.heap[g]? := hg.block g h.lt (fun e => absurd (hv g e.symm) (Nat.lt_irrefl _))
  exact ⟨(World.cell?_of_block hb).trans h.c0, (World.cell?_of_block hb).trans h.c1⟩

theorem cl2_set {W : World} {g d : Nat} {x : Lk} {v : Value} (h : Cl2 W g x) (hd : d < g) (j : Nat := 0) : Cl2 (W.setCell ⟨d, j, none⟩ v) g x := by
  have hb : (W.setCell ⟨d, j, none⟩ v).heap[g]? = W.heap[g]? := Below.heap_setCell _ _ _ _ (by show g ≠ d; omega)
  exact ⟨(World.cell?_of_block hb).trans h.c0, (World.cell?_of_block hb).trans h.c1⟩

/-- A link may be added. -/
def Gdl (n m : Nat) (ns : Nat → Nd) (ls : Nat → Lk) (x : Lk) : Prop := (0 ≤ x.fr ∧ x.fr ≤ (n : Int) - 1) ∧ (0 ≤ x.to ∧ x.to ≤ (n : Int) - 1) ∧ m ≠ 40 ∧ (ns x.fr.toNat).kd ≠ 2 ∧ dors (ns x.to.toNat).kd.toNat - (dcn ls x.to m : Int) ≠ 0

set_option maxRecDepth 20000 in
set_option maxHeartbeats 8000000 in
theorem addLink_any {w0 w : World} {d : Nat} {v u : Value} {n m : Nat} {ns : Nat → Nd} {ls : Nat → Lk} (x : Lk) (hK : Kds w) (hD : Dr w0 w d v u n m ns ls) (hn : n ≤ 20) (hm : m ≤ 40) (hk : ∀ b, b < n → 1 ≤ (ns b).kd ∧ (ns b).kd ≤ 8) :
    Calls Tryd.prog 25 #[.pointer (some ⟨d, 0, none⟩), x.v] w fun e w' => ∃ y, e = .returned y ∧ (Gdl n m ns ls x → y = .nilIface ∧ ∃ u', Dr w0 w' d v u' n (m + 1) ns (pls ls m x)) ∧ (¬ Gdl n m ns ls x → ∃ a b, y = .iface a b) ∧ Below w0.heap.size w0 w' := by
  obtain ⟨i0, hi, hz0, hz1, hz2⟩ := info_parts infoL
  have X1 : Hid (Cl2 (w.alloc (.cells #[.int .i64 x.fr, .int .i64 x.to] 50)) w.heap.size x) := Cl2.new w x _
  have B0 : Hid (Below w.heap.size w (w.alloc (.cells #[.int .i64 x.fr, .int .i64 x.to] 50))) := below_one w _
  have D1 : Hid (Dr w0 (w.alloc (.cells #[.int .i64 x.fr, .int .i64 x.to] 50)) d v u n m ns ls) := hD.call B0.out
  have K1 : Hid (Kds (w.alloc (.cells #[.int .i64 x.fr, .int .i64 x.to] 50))) := hK.below B0.out
  have HQ : Hid (∀ b, b < n → 1 ≤ (ns b).kd ∧ (ns b).kd ≤ 8) := hk
  obtain ⟨no, ncap, rfl⟩ := own_op hD.o1
  obtain ⟨ao, cap, rfl⟩ := own_op hD.o2
  have HVG : Hid (∀ k, (Value.slice ao m cap).ownBlock = some k → k < w.heap.size) := fun k hk => (World.ownsRow.lt hD.o2 k hk).2
  have HDG : Hid (d < w.heap.size) := hD.lt
  have i1 := fun W => block_any (n : Int) x.fr (by omega) W
  have i2 := fun W => block_any (n : Int) x.to (by omega) W
  clear hK hk
  go_enter Tryd.func25, Tryd.ntmps25
  go_upto_region 1 with fail
  clear hD B0
  generalize hwg : w.alloc (.cells #[.int .i64 x.fr, .int .i64 x.to] 50) = w2 at X1 D1 K1 ⊢
  generalize w.heap.size = g at X1 HVG HDG ⊢
  clear hwg
  have D2 : Hid (Dr w0 w2 d (.slice no n ncap) (.slice ao m cap) n m ns ls) := D1.out
  have K2 : Hid (Kds w2) := K1.out
  have X2 : Hid (Cl2 w2 g x) := X1.out
  clear D1 K1 X1
  have cN := D2.out.c0
  have cL := D2.out.c1
  have hdl := D2.out.lt
  have hgl := X2.out.lt
  have x0 := X2.out.c0
  have x1 := X2.out.c1
  go_upto_region 2 with fail
  by_cases h1 : 0 ≤ x.fr ∧ x.fr ≤ (n : Int) - 1
  rotate_left
  · rw [decide_eq_false h1] at i1
    have HN : Hid (¬ Gdl n m ns ls x) := fun h => h1 h.1
    clear h1
    go_upto_region 3 with (go_at_call 40; (with_reducible refine (i1 _).mono ?_); rintro e w' ⟨rfl, hw⟩; obtain rfl := hw.symm)
    obtain ⟨ea, eb, ce⟩ := K2.out.er 3 (by omega)
    have hl : 3 < w2.heap.size := World.block_lt_of_cell? _ _ ce
    go_wp2
    go_ret
    exact ⟨_, rfl, fun h => absurd h HN.out, fun _ => ⟨_, _, rfl⟩, D2.out.be⟩

  by_cases h2 : 0 ≤ x.to ∧ x.to ≤ (n : Int) - 1
  rotate_left
  · rw [decide_eq_true h1] at i1
    rw [decide_eq_false h2] at i2
    have HN : Hid (¬ Gdl n m ns ls x) := fun h => h2 h.2.1
    clear h1 h2
    go_upto_region 3 with (first
      | (go_at_call 40; (with_reducible refine (i1 _).mono ?_); rintro e w' ⟨rfl, hw⟩; obtain rfl := hw.symm)
      | (go_at_call 40; (with_reducible refine (i2 _).mono ?_); rintro e w' ⟨rfl, hw⟩; obtain rfl := hw.symm))
    obtain ⟨ea, eb, ce⟩ := K2.out.er 3 (by omega)
    have hl : 3 < w2.heap.size := World.block_lt_of_cell? _ _ ce
    go_wp2
    go_ret
    exact ⟨_, rfl, fun h => absurd h HN.out, fun _ => ⟨_, _, rfl⟩, D2.out.be⟩

  rw [decide_eq_true h1] at i1
  rw [decide_eq_true h2] at i2
  go_upto_region 4 with (first
      | (go_at_call 40; (with_reducible refine (i1 _).mono ?_); rintro e w' ⟨rfl, hw⟩; obtain rfl := hw.symm)
      | (go_at_call 40; (with_reducible refine (i2 _).mono ?_); rintro e w' ⟨rfl, hw⟩; obtain rfl := hw.symm))
  obtain ⟨f, hf⟩ : ∃ f : Nat, x.fr = (f : Int) := ⟨x.fr.toNat, by omega⟩
  obtain ⟨t, ht⟩ : ∃ t : Nat, x.to = (t : Int) := ⟨x.to.toNat, by omega⟩
  have hfn : f < n := by omega
  have htn : t < n := by omega
  have HR : Hid ((0 ≤ x.fr ∧ x.fr ≤ (n : Int) - 1) ∧ (0 ≤ x.to ∧ x.to ≤ (n : Int) - 1)) := ⟨h1, h2⟩
  have HF : Hid (x.fr = (f : Int)) := hf
  have HT : Hid (x.to = (t : Int)) := ht
  rw [hf] at x0
  rw [ht] at x1
  obtain ⟨nb, noff, rfl, hnl, hnc⟩ := (nl_of_own D2.out.o1).cells (by omega)
  have xk := (hnc f hfn).2.1
  have hq := HQ.out t htn
  have hq2 := HQ.out f hfn
  obtain ⟨q, hq3⟩ : ∃ q : Nat, (ns t).kd = (q : Int) := ⟨(ns t).kd.toNat, by omega⟩
  have hq9 : q < 9 := by omega
  have HQ3 : Hid ((ns t).kd = (q : Int)) := hq3
  clear hf ht h1 h2 hnc hq hq3 i1 i2
  by_cases h3 : m = 40
  · have HN : Hid (¬ Gdl n m ns ls x) := fun h => h.2.2.1 h3
    go_upto_region 5 with (go_quiet (fail))
    have D3 : Hid (Dr w0 (w2.drewN nq) d (.slice (some ⟨nb, noff, none⟩) n ncap) (.slice ao m cap) n m ns ls) := D2.out.call (below_drewN (Below.refl _ _) nq)
    have K3 : Hid (Kds (w2.drewN nq)) := K2.out.below (below_drewN (Below.refl _ _) nq)
    obtain ⟨ea, eb, ce⟩ := K3.out.er 1 (by omega)
    have hl : 1 < (w2.drewN nq).heap.size := World.block_lt_of_cell? _ _ ce
    go_wp2
    go_ret
    exact ⟨_, rfl, fun h => absurd h HN.out, fun _ => ⟨_, _, rfl⟩, D3.out.be⟩

  have hm40 : ¬ (m : Int) = 40 := by omega
  have hm40b : ((m : Int) == 40) = false := beq_false_of_ne hm40
  have H3 : Hid (m ≠ 40) := h3
  clear h3
  by_cases h4 : (ns f).kd = 2
  · have HN : Hid (¬ Gdl n m ns ls x) := fun h => h.2.2.2.1 (by rw [HF.out]; exact h4)
    rw [h4] at xk
    clear hq2 h4
    go_upto_region 5 with (go_quiet (fail))
    have D3 : Hid (Dr w0 (w2.drewN nq) d (.slice (some ⟨nb, noff, none⟩) n ncap) (.slice ao m cap) n m ns ls) := D2.out.call (below_drewN (Below.refl _ _) nq)
    have K3 : Hid (Kds (w2.drewN nq)) := K2.out.below (below_drewN (Below.refl _ _) nq)
    obtain ⟨ea, eb, ce⟩ := K3.out.er 1 (by omega)
    have hl : 1 < (w2.drewN nq).heap.size := World.block_lt_of_cell? _ _ ce
    go_wp2
    go_ret
    exact ⟨_, rfl, fun h => absurd h HN.out, fun _ => ⟨_, _, rfl⟩, D3.out.be⟩

  have H4 : Hid ((ns x.fr.toNat).kd ≠ 2) := by rw [HF.out]; exact h4
  have h5 : ((ns f).kd == 2) = false := beq_false_of_ne h4
  generalize (ns f).kd = kf at xk h4 h5 hq2
  have FX : Hid (∀ X, Below w2.heap.size w2 X → (X.cell? ⟨d, 0, none⟩ = some (.slice (some ⟨nb, noff, none⟩) n ncap) ∧ X.cell? ⟨d, 1, none⟩ = some (.slice ao m cap)) ∧ X.cell? ⟨nb, noff + f * 3 + 1, none⟩ = some (.int .i64 kf) ∧ X.cell? ⟨g, 0, none⟩ = some (.int .i64 (f : Int)) ∧ X.cell? ⟨g, 1, none⟩ = some (.int .i64 (t : Int))) := fun X hb => ⟨⟨keepc hb cN, keepc hb cL⟩, keepc hb xk, keepc hb x0, keepc hb x1⟩
  refine wp_region_any (by kernel_rfl) ?_
  change wpAny _ _ _ _ _ _ _ (World.drew _)
  refine wpI_any (I := fun X => Below w2.heap.size w2 X) _ _ _ _ ?_
  refine wpI_take (i := 0) (v := ?_) rfl (by kernel_rfl) (by kernel_rfl) (by kernel_rfl) (fun _ _ _ h => h) ⟨by rfl, ?_⟩ ?_
  rotate_left
  · intro X hI; obtain ⟨⟨e0, e1⟩, e2, e3, e4⟩ := FX.out X hI; go_simp; try go_bits
    try rw [if_pos (by omega)]
    try with_reducible rfl
  refine wpI_take (i := 1) (v := ?_) rfl (by kernel_rfl) (by kernel_rfl) (by kernel_rfl) (fun _ _ _ h => h) ⟨by rfl, ?_⟩ ?_
  rotate_left
  · intro X hI; obtain ⟨⟨e0, e1⟩, e2, e3, e4⟩ := FX.out X hI; go_simp; try go_bits
    try rw [if_pos (by omega)]
    try with_reducible rfl
  refine wpI_take (i := 2) (v := ?_) rfl (by kernel_rfl) (by kernel_rfl) (by kernel_rfl) (fun _ _ _ h => h) ⟨by rfl, ?_⟩ ?_
  rotate_left
  · intro X hI; obtain ⟨⟨e0, e1⟩, e2, e3, e4⟩ := FX.out X hI; go_simp; try go_bits
    try rw [if_pos (by omega)]
    try with_reducible rfl
  refine wpI_take (i := 3) (v := ?_) rfl (by kernel_rfl) (by kernel_rfl) (by kernel_rfl) (fun _ _ _ h => h) ⟨by rfl, ?_⟩ ?_
  rotate_left
  · intro X hI; obtain ⟨⟨e0, e1⟩, e2, e3, e4⟩ := FX.out X hI; go_simp; try go_bits
    try rw [if_pos (by omega)]
    try with_reducible rfl
  go_simp
  refine wpI_take (i := 4) (v := ?_) rfl (by kernel_rfl) (by kernel_rfl) (by kernel_rfl) (fun _ _ _ h => h) ⟨by rfl, ?_⟩ ?_
  rotate_left
  · intro X hI; obtain ⟨⟨e0, e1⟩, e2, e3, e4⟩ := FX.out X hI; go_simp; try go_bits
    try rw [if_pos (by omega)]
    try with_reducible rfl
  refine wpI_take (i := 5) (v := ?_) rfl (by kernel_rfl) (by kernel_rfl) (by kernel_rfl) (fun _ _ _ h => h) ⟨by rfl, ?_⟩ ?_
  rotate_left
  · intro X hI; obtain ⟨⟨e0, e1⟩, e2, e3, e4⟩ := FX.out X hI; go_simp; try go_bits
    try rw [if_pos (by omega)]
    try with_reducible rfl
  refine wpI_take (i := 6) (v := ?_) rfl (by kernel_rfl) (by kernel_rfl) (by kernel_rfl) (fun _ _ _ h => h) ⟨by rfl, ?_⟩ ?_
  rotate_left
  · intro X hI; obtain ⟨⟨e0, e1⟩, e2, e3, e4⟩ := FX.out X hI; go_simp; try go_bits
    try rw [if_pos (by omega)]
    try with_reducible rfl
  refine wpI_take (i := 7) (v := ?_) rfl (by kernel_rfl) (by kernel_rfl) (by kernel_rfl) (fun _ _ _ h => h) ⟨by rfl, ?_⟩ ?_
  rotate_left
  · intro X hI; obtain ⟨⟨e0, e1⟩, e2, e3, e4⟩ := FX.out X hI; go_simp; try go_bits
    try rw [if_pos (by omega)]
    try with_reducible rfl
  go_simp
  refine wpI_take (i := 8) (v := ?_) rfl (by kernel_rfl) (by kernel_rfl) (by kernel_rfl) (fun _ _ _ h => h) ⟨by rfl, ?_⟩ ?_
  rotate_left
  · intro X hI; obtain ⟨⟨e0, e1⟩, e2, e3, e4⟩ := FX.out X hI; go_simp; try go_bits
    try rw [if_pos (by omega)]
    try with_reducible rfl
  refine wpI_take (i := 9) (v := ?_) rfl (by kernel_rfl) (by kernel_rfl) (by kernel_rfl) (fun _ _ _ h => h) ⟨by rfl, ?_⟩ ?_
  rotate_left
  · intro X hI; obtain ⟨⟨e0, e1⟩, e2, e3, e4⟩ := FX.out X hI; go_simp; try go_bits
    try rw [if_pos (by omega)]
    try with_reducible rfl
  refine wpI_take (i := 10) (v := ?_) rfl (by kernel_rfl) (by kernel_rfl) (by kernel_rfl) (fun _ _ _ h => h) ⟨by rfl, ?_⟩ ?_
  rotate_left
  · intro X hI; obtain ⟨⟨e0, e1⟩, e2, e3, e4⟩ := FX.out X hI; go_simp; try go_bits
    try rw [if_pos (by omega)]
    try with_reducible rfl
  refine wpI_take (i := 11) (v := ?_) rfl (by kernel_rfl) (by kernel_rfl) (by kernel_rfl) (fun _ _ _ h => h) ⟨by rfl, ?_⟩ ?_
  rotate_left
  · intro X hI; obtain ⟨⟨e0, e1⟩, e2, e3, e4⟩ := FX.out X hI; go_simp; try go_bits
    try rw [if_pos (by omega)]
    try with_reducible rfl
  go_simp
  refine wpI_take (i := 12) (v := ?_) rfl (by kernel_rfl) (by kernel_rfl) (by kernel_rfl) (fun _ _ _ h => h) ⟨by rfl, ?_⟩ ?_
  rotate_left
  · intro X hI; obtain ⟨⟨e0, e1⟩, e2, e3, e4⟩ := FX.out X hI; go_simp; try go_bits
    try rw [if_pos (by omega)]
    try with_reducible rfl
  refine wpI_take (i := 13) (v := ?_) rfl (by kernel_rfl) (by kernel_rfl) (by kernel_rfl) (fun _ _ _ h => h) ⟨by rfl, ?_⟩ ?_
  rotate_left
  · intro X hI; obtain ⟨⟨e0, e1⟩, e2, e3, e4⟩ := FX.out X hI; go_simp; try go_bits
    try rw [if_pos (by omega)]
    try with_reducible rfl
  refine wpI_take (i := 14) (v := ?_) rfl (by kernel_rfl) (by kernel_rfl) (by kernel_rfl) (fun _ _ _ h => h) ⟨by rfl, ?_⟩ ?_
  rotate_left
  · intro X hI; obtain ⟨⟨e0, e1⟩, e2, e3, e4⟩ := FX.out X hI; go_simp; try go_bits
    try rw [if_pos (by omega)]
    try with_reducible rfl
  refine wpI_take (i := 15) (v := ?_) rfl (by kernel_rfl) (by kernel_rfl) (by kernel_rfl) (fun _ _ _ h => h) ⟨by rfl, ?_⟩ ?_
  rotate_left
  · intro X hI; obtain ⟨⟨e0, e1⟩, e2, e3, e4⟩ := FX.out X hI; go_simp; try go_bits
    try rw [if_pos (by omega)]
    try with_reducible rfl
  go_simp
  refine wpI_take (i := 16) (v := ?_) rfl (by kernel_rfl) (by kernel_rfl) (by kernel_rfl) (fun _ _ _ h => h) ⟨by rfl, ?_⟩ ?_
  rotate_left
  · intro X hI; obtain ⟨⟨e0, e1⟩, e2, e3, e4⟩ := FX.out X hI; go_simp; try go_bits
    try rw [if_pos (by omega)]
    try with_reducible rfl
  refine wpI_take (i := 17) (v := ?_) rfl (by kernel_rfl) (by kernel_rfl) (by kernel_rfl) (fun _ _ _ h => h) ⟨by rfl, ?_⟩ ?_
  rotate_left
  · intro X hI; obtain ⟨⟨e0, e1⟩, e2, e3, e4⟩ := FX.out X hI; go_simp; try go_bits
    try rw [if_pos (by omega)]
    try with_reducible rfl
  refine wpI_take (i := 18) (v := ?_) rfl (by kernel_rfl) (by kernel_rfl) (by kernel_rfl) (fun _ _ _ h => h) ⟨by rfl, ?_⟩ ?_
  rotate_left
  · intro X hI; obtain ⟨⟨e0, e1⟩, e2, e3, e4⟩ := FX.out X hI; go_simp; try go_bits
    try rw [if_pos (by omega)]
    try with_reducible rfl
  refine wpI_take (i := 19) (v := ?_) rfl (by kernel_rfl) (by kernel_rfl) (by kernel_rfl) (fun _ _ _ h => h) ⟨by rfl, ?_⟩ ?_
  rotate_left
  · intro X hI; obtain ⟨⟨e0, e1⟩, e2, e3, e4⟩ := FX.out X hI; go_simp; try go_bits
    try rw [if_pos (by omega)]
    try with_reducible rfl
  go_simp
  refine wpI_take (i := 20) (v := ?_) rfl (by kernel_rfl) (by kernel_rfl) (by kernel_rfl) (fun _ _ _ h => h) ⟨by rfl, ?_⟩ ?_
  rotate_left
  · intro X hI; obtain ⟨⟨e0, e1⟩, e2, e3, e4⟩ := FX.out X hI; go_simp; try go_bits
    try rw [if_pos (by omega)]
    try with_reducible rfl
  refine wpI_take (i := 21) (v := ?_) rfl (by kernel_rfl) (by kernel_rfl) (by kernel_rfl) (fun _ _ _ h => h) ⟨by rfl, ?_⟩ ?_
  rotate_left
  · intro X hI; obtain ⟨⟨e0, e1⟩, e2, e3, e4⟩ := FX.out X hI; go_simp; try go_bits
    try rw [if_pos (by omega)]
    try with_reducible rfl
  refine wpI_take (i := 22) (v := ?_) rfl (by kernel_rfl) (by kernel_rfl) (by kernel_rfl) (fun _ _ _ h => h) ⟨by rfl, ?_⟩ ?_
  rotate_left
  · intro X hI; obtain ⟨⟨e0, e1⟩, e2, e3, e4⟩ := FX.out X hI; go_simp; try go_bits
    try rw [if_pos (by omega)]
    try with_reducible rfl
  refine wpI_take (i := 23) (v := ?_) rfl (by kernel_rfl) (by kernel_rfl) (by kernel_rfl) (fun _ _ _ h => h) ⟨by rfl, ?_⟩ ?_
  rotate_left
  · intro X hI; obtain ⟨⟨e0, e1⟩, e2, e3, e4⟩ := FX.out X hI; go_simp; try go_bits
    try rw [if_pos (by omega)]
    try with_reducible rfl
  go_simp
  have l0 : Below w2.heap.size w2 w2.drew := (Below.refl _ _).drew
  have D3 : Hid (Dr w0 w2.drew d (.slice (some ⟨nb, noff, none⟩) n ncap) (.slice ao m cap) n m ns ls) := D2.out.call l0
  have K3 : Hid (Kds w2.drew) := K2.out.below l0
  have X3 : Hid (Cl2 w2.drew g x) := X2.out.below l0
  have i3 := free_any K3.out D3.out.c0 D3.out.c1 (nl_of_own D3.out.o1) (ll_of_own D3.out.o2) (by omega) t q htn (by omega) HQ3.out hq9
  obtain ⟨fr, hfr⟩ : ∃ fr, fr = dors q - (dcn ls (t : Int) m : Int) := ⟨_, rfl⟩
  have HFR : Hid (fr = dors (ns x.to.toNat).kd.toNat - (dcn ls x.to m : Int)) := by
    show fr = _
    rw [HT.out, hfr, show (ns ((t : Int)).toNat).kd.toNat = q by rw [show ((t : Int)).toNat = t by omega, HQ3.out]; omega]
  rw [← hfr] at i3
  clear hfr
  by_cases h6 : fr = 0
  · have h7 : (fr == 0) = true := by simp [h6]
    have HN : Hid (¬ Gdl n m ns ls x) := fun h => h.2.2.2.2 (by rw [← HFR.out]; exact h6)
    clear h6
    refine wpI_only (i := 24) rfl (by kernel_rfl) l0 (by rfl) ?_
    intro K hK
    go_simp
    go_wp2_with (go_at_call 41; (with_reducible refine i3.mono ?_); rintro e w5 ⟨rfl, hb5⟩; have l1 := bstep l0 hb5; have D2 : Hid (Dr w0 w5 d (.slice (some ⟨nb, noff, none⟩) n ncap) (.slice ao m cap) n m ns ls) := D3.out.call hb5; have K5 : Hid (Kds w5) := K3.out.below hb5; have X2 : Hid (Cl2 w5 g x) := X3.out.below hb5; clear hb5)
    refine wpI_take (i := 25) (v := ?_) rfl (by kernel_rfl) (by kernel_rfl) (by kernel_rfl) (fun _ _ _ h => h) ⟨by rfl, ?_⟩ ?_
    rotate_left
    · intro X hI; go_simp; try go_bits
      try rw [if_pos (by omega)]
      try with_reducible rfl
    refine wpI_take (i := 26) (v := ?_) rfl (by kernel_rfl) (by kernel_rfl) (by kernel_rfl) (fun _ _ _ h => h) ⟨by rfl, ?_⟩ ?_
    rotate_left
    · intro X hI; go_simp; try go_bits
      try rw [if_pos (by omega)]
      try with_reducible rfl
    refine wpI_take (i := 27) (v := ?_) rfl (by kernel_rfl) (by kernel_rfl) (by kernel_rfl) (fun _ _ _ h => h) ⟨by rfl, ?_⟩ ?_
    rotate_left
    · intro X hI; go_simp; try go_bits
      try rw [if_pos (by omega)]
      try with_reducible rfl
    go_simp
    refine wpI_done l1 (by kernel_rfl) ?_ _
    obtain ⟨ea, eb, ce⟩ := K5.out.er 1 (by omega)
    have hl : 1 < w5.heap.size := World.block_lt_of_cell? _ _ ce
    go_wp2
    go_ret
    exact ⟨_, rfl, fun h => absurd h HN.out, fun _ => ⟨_, _, rfl⟩, D2.out.be⟩

  · have h7 : (fr == 0) = false := beq_false_of_ne h6
    have GD : Hid (Gdl n m ns ls x) := ⟨HR.out.1, HR.out.2, H3.out, H4.out, by rw [← HFR.out]; exact h6⟩
    clear h6 x0 x1
    refine wpI_only (i := 24) rfl (by kernel_rfl) l0 (by rfl) ?_
    intro K hK
    go_simp
    go_wp2_with (go_at_call 41; (with_reducible refine i3.mono ?_); rintro e w5 ⟨rfl, hb5⟩; have l1 := bstep l0 hb5; have D2 : Hid (Dr w0 w5 d (.slice (some ⟨nb, noff, none⟩) n ncap) (.slice ao m cap) n m ns ls) := D3.out.call hb5; have K5 : Hid (Kds w5) := K3.out.below hb5; have X2 : Hid (Cl2 w5 g x) := X3.out.below hb5; clear hb5)
    refine wpI_take (i := 25) (v := ?_) rfl (by kernel_rfl) (by kernel_rfl) (by kernel_rfl) (fun _ _ _ h => h) ⟨by rfl, ?_⟩ ?_
    rotate_left
    · intro X hI; go_simp; try go_bits
      try rw [if_pos (by omega)]
      try with_reducible rfl
    refine wpI_take (i := 26) (v := ?_) rfl (by kernel_rfl) (by kernel_rfl) (by kernel_rfl) (fun _ _ _ h => h) ⟨by rfl, ?_⟩ ?_
    rotate_left
    · intro X hI; go_simp; try go_bits
      try rw [if_pos (by omega)]
      try with_reducible rfl
    refine wpI_take (i := 27) (v := ?_) rfl (by kernel_rfl) (by kernel_rfl) (by kernel_rfl) (fun _ _ _ h => h) ⟨by rfl, ?_⟩ ?_
    rotate_left
    · intro X hI; go_simp; try go_bits
      try rw [if_pos (by omega)]
      try with_reducible rfl
    go_simp
    refine wpI_done l1 (by kernel_rfl) ?_ _
    go_upto_region 6 with fail
    clear l1 l0 cN cL hdl hgl
    have hdl := D2.out.lt
    have hgl := X2.out.lt
    obtain ⟨x0, x1⟩ := X2.out
    refine wp_region_any (by kernel_rfl) ?_
    change wpAny _ _ _ _ _ _ _ (World.drew _)
    have DD : Hid (Dr w0 w5.drew d (.slice (some ⟨nb, noff, none⟩) n ncap) (.slice ao m cap) n m ns ls) := D2.out.call ((Below.refl _ _).drew)
    have XX : Hid (Cl2 w5.drew g x) := X2.out.below ((Below.refl _ _).drew)
    generalize w5.drew = w3 at DD XX ⊢
    refine wpI_any (I := fun X => Cl2 X g x) _ _ _ _ ?_
    refine wpI_take (i := 0) (v := ?_) rfl (by kernel_rfl) (by kernel_rfl) (by kernel_rfl) (fun _ _ _ h => h) ⟨by rfl, ?_⟩ ?_
    rotate_left
    · intro X hI; go_simp; try go_bits
      try rw [if_pos (by omega)]
      try with_reducible rfl
    refine wpI_take (i := 1) (v := ?_) rfl (by kernel_rfl) (by kernel_rfl) (by kernel_rfl) (fun _ _ _ h => h) ⟨by rfl, ?_⟩ ?_
    rotate_left
    · intro X hI; go_simp; try go_bits
      try rw [if_pos (by omega)]
      try with_reducible rfl
    refine wpI_take (i := 2) (v := ?_) rfl (by kernel_rfl) (by kernel_rfl) (by kernel_rfl) (fun _ _ _ h => h) ⟨by rfl, ?_⟩ ?_
    rotate_left
    · intro X hI; go_simp; try go_bits
      try rw [if_pos (by omega)]
      try with_reducible rfl
    refine wpI_take (i := 3) (v := ?_) rfl (by kernel_rfl) (by kernel_rfl) (by kernel_rfl) (fun _ _ _ h => h) ⟨by rfl, ?_⟩ ?_
    rotate_left
    · intro X hI; go_simp; try go_bits
      try rw [if_pos (by omega)]
      try with_reducible rfl
    refine wpI_take (i := 4) (v := ?_) rfl (by kernel_rfl) (by kernel_rfl) (by kernel_rfl) (fun _ _ _ h => h) ⟨by rfl, ?_⟩ ?_
    rotate_left
    · intro X hI; go_simp; try go_bits
      try rw [if_pos (by omega)]
      try with_reducible rfl
    refine wpI_take (i := 6) (v := ?_) rfl (by kernel_rfl) (by kernel_rfl) (by kernel_rfl) (fun _ _ _ h => h) ⟨by rfl, ?_⟩ ?_
    rotate_left
    · intro X hI; obtain ⟨x0, x1⟩ := hI; go_simp; try go_bits
      try rw [if_pos (by omega)]
      try with_reducible rfl
    have XA : Hid (Cl2 (w3.alloc (.cells #[.int .i64 x.fr, .int .i64 x.to] 50)) g x) := XX.out.below (below_one _ _)
    have DA : Hid (Dr w0 (w3.alloc (.cells #[.int .i64 x.fr, .int .i64 x.to] 50)) d (.slice (some ⟨nb, noff, none⟩) n ncap) (.slice ao m cap) n m ns ls) := DD.out.call (below_one _ _)
    have cL := DD.out.c1
    refine wpI_two (i := 5) (j := 7) rfl rfl (by kernel_rfl) XX.out (by rfl) (by rfl) ?_ ?_
    · intro K hK
      go_simp
      refine hK _ _ ?_
      refine wpI_only (i := 7) rfl (by kernel_rfl) XX.out (by rfl) ?_
      intro K hK
      go_simp
      refine hK _ _ ?_
      refine wpI_only (i := 8) rfl (by kernel_rfl) XA.out (by rfl) ?_
      intro K hK
      refine wp_app _ _ _ 29 rfl w0.heap.size 50 i0 (.agg #[.int .i64 0, .int .i64 0]) 2 16 Tryd.underlying29 hi hz0 hz1 hz2 rfl (by decide) _ _ _ rfl DA.out.o2 ⟨w3.heap.size, 0, none⟩ 1 1 [.int .i64 x.fr, .int .i64 x.to] rfl rfl (two_new _ _ _ _) (by simp [Value.oneCell']) (by unfold maxLen; omega) (by omega) DA.out.be.size (by decide) ?_
      intro v' w4 ho hgw hu
      obtain ⟨oa, oc, rfl⟩ := own_op ho
      have XG : Hid (Cl2 w4 g x) := cl2_grown XA.out hgw HVG.out
      rw [lk_more] at ho
      have DG : Hid (Dr w0 (w4.setCell ⟨d, 1, none⟩ (.slice oa (m + 1) oc)) d (.slice (some ⟨nb, noff, none⟩) n ncap) (.slice oa (m + 1) oc) n (m + 1) ns (pls ls m x)) := DA.out.app2 ho hgw (hu.imp id And.left)
      have cd : w4.cell? ⟨d, 1, none⟩ = some (.slice ao m cap) := (World.cell?_of_block (hgw.block d DA.out.lt (fun e => DA.out.s2 e.symm))).trans DA.out.c1
      have fd : w4.frozen? ⟨d, 1, none⟩ = false := (World.frozen?_of_block (hgw.block d DA.out.lt (fun e => DA.out.s2 e.symm))).trans (DA.out.fz 1)
      have XS : Hid (Cl2 (w4.setCell ⟨d, 1, none⟩ (.slice oa (m + 1) oc)) g x) := cl2_set XG.out HDG.out 1
      clear hgw hu ho
      refine hK _ _ ?_
      refine wpI_take (i := 9) (v := ?_) rfl (by kernel_rfl) (by kernel_rfl) (by kernel_rfl) (fun _ _ _ h => h) ⟨by rfl, ?_⟩ ?_
      rotate_left
      · intro X hI; go_simp; try go_bits
        try rw [if_pos (by omega)]
        try with_reducible rfl
      refine wpI_take (i := 10) (v := ?_) rfl (by kernel_rfl) (by kernel_rfl) (by kernel_rfl) (fun _ _ _ h => h) ⟨by rfl, ?_⟩ ?_
      rotate_left
      · intro X hI; go_simp; try go_bits
        try rw [if_pos (by omega)]
        try with_reducible rfl
      refine wpI_take (i := 11) (v := ?_) rfl (by kernel_rfl) (by kernel_rfl) (by kernel_rfl) (fun _ _ _ h => h) ⟨by rfl, ?_⟩ ?_
      rotate_left
      · intro X hI; go_simp; try go_bits
        try rw [if_pos (by omega)]
        try with_reducible rfl
      refine wpI_only (i := 12) rfl (by kernel_rfl) XG.out (by rfl) ?_
      intro K hK
      go_simp
      refine hK _ _ ?_
      refine wpI_done XS.out (by kernel_rfl) ?_ _
      go_wp2
      go_ret
      exact ⟨_, rfl, fun _ => ⟨rfl, _, DG.out⟩, fun h => absurd GD.out h, DG.out.be⟩
    · intro K hK
      go_simp
      refine hK _ _ ?_
      have cL2 := DA.out.c1
      refine wpI_only (i := 5) rfl (by kernel_rfl) XA.out (by rfl) ?_
      intro K hK
      go_simp
      refine hK _ _ ?_
      refine wpI_only (i := 8) rfl (by kernel_rfl) XA.out (by rfl) ?_
      intro K hK
      refine wp_app _ _ _ 29 rfl w0.heap.size 50 i0 (.agg #[.int .i64 0, .int .i64 0]) 2 16 Tryd.underlying29 hi hz0 hz1 hz2 rfl (by decide) _ _ _ rfl DA.out.o2 ⟨w3.heap.size, 0, none⟩ 1 1 [.int .i64 x.fr, .int .i64 x.to] rfl rfl (two_new _ _ _ _) (by simp [Value.oneCell']) (by unfold maxLen; omega) (by omega) DA.out.be.size (by decide) ?_
      intro v' w4 ho hgw hu
      obtain ⟨oa, oc, rfl⟩ := own_op ho
      have XG : Hid (Cl2 w4 g x) := cl2_grown XA.out hgw HVG.out
      rw [lk_more] at ho
      have DG : Hid (Dr w0 (w4.setCell ⟨d, 1, none⟩ (.slice oa (m + 1) oc)) d (.slice (some ⟨nb, noff, none⟩) n ncap) (.slice oa (m + 1) oc) n (m + 1) ns (pls ls m x)) := DA.out.app2 ho hgw (hu.imp id And.left)
      have cd : w4.cell? ⟨d, 1, none⟩ = some (.slice ao m cap) := (World.cell?_of_block (hgw.block d DA.out.lt (fun e => DA.out.s2 e.symm))).trans DA.out.c1
      have fd : w4.frozen? ⟨d, 1, none⟩ = false := (World.frozen?_of_block (hgw.block d DA.out.lt (fun e => DA.out.s2 e.symm))).trans (DA.out.fz 1)
      have XS : Hid (Cl2 (w4.setCell ⟨d, 1, none⟩ (.slice oa (m + 1) oc)) g x) := cl2_set XG.out HDG.out 1
      clear hgw hu ho
      refine hK _ _ ?_
      refine wpI_take (i := 9) (v := ?_) rfl (by kernel_rfl) (by kernel_rfl) (by kernel_rfl) (fun _ _ _ h => h) ⟨by rfl, ?_⟩ ?_
      rotate_left
      · intro X hI; go_simp; try go_bits
        try rw [if_pos (by omega)]
        try with_reducible rfl
      refine wpI_take (i := 10) (v := ?_) rfl (by kernel_rfl) (by kernel_rfl) (by kernel_rfl) (fun _ _ _ h => h) ⟨by rfl, ?_⟩ ?_
      rotate_left
      · intro X hI; go_simp; try go_bits
        try rw [if_pos (by omega)]
        try with_reducible rfl
      refine wpI_take (i := 11) (v := ?_) rfl (by kernel_rfl) (by kernel_rfl) (by kernel_rfl) (fun _ _ _ h => h) ⟨by rfl, ?_⟩ ?_
      rotate_left
      · intro X hI; go_simp; try go_bits
        try rw [if_pos (by omega)]
        try with_reducible rfl
      refine wpI_only (i := 12) rfl (by kernel_rfl) XG.out (by rfl) ?_
      intro K hK
      go_simp
      refine hK _ _ ?_
      refine wpI_done XS.out (by kernel_rfl) ?_ _
      go_wp2
      go_ret
      exact ⟨_, rfl, fun _ => ⟨rfl, _, DG.out⟩, fun h => absurd GD.out h, DG.out.be⟩

end Go.Proofs.YtiadfabhpagmpaaDoor
