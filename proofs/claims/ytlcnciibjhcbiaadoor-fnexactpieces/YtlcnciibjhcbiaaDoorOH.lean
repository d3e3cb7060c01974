/- What stands while Fourier makes its lists, in whatever order. -/
import Derived.Test.YtlcnciibjhcbiaaDoorOG
namespace Go.Proofs.YtlcnciibjhcbiaaDoor
open Go.RowKit

section
variable {P : Program} {md : Region.Mode} {ops : Array Oper} {Q : Exit → Act → World → Prop} {I : World → Prop}
/-- Three operations may come up: each of them. -/
theorem wpI_three {i j l : Nat} {o o2 o3 : Oper} {fuel : Nat} {listed : Array Bool} {a : Act} {w : World} (ho : ops[i]? = some o) (ho2 : ops[j]? = some o2) (ho3 : ops[l]? = some o3) (hr : Region.ready md ops listed = [i, j, l]) (hI : I w)
    (hw : Region.wanted o (yielded ops a.tmps) = true) (hw2 : Region.wanted o2 (yielded ops a.tmps) = true) (hw3 : Region.wanted o3 (yielded ops a.tmps) = true)
    (h : ∀ K : Act → World → Prop, (∀ a w, wpI P md ops Q I fuel (listed.setIfInBounds i true) a w → K a w) → Oper.wp P o a w K Q)
    (h2 : ∀ K : Act → World → Prop, (∀ a w, wpI P md ops Q I fuel (listed.setIfInBounds j true) a w → K a w) → Oper.wp P o2 a w K Q)
    (h3 : ∀ K : Act → World → Prop, (∀ a w, wpI P md ops Q I fuel (listed.setIfInBounds l true) a w → K a w) → Oper.wp P o3 a w K Q) : wpI P md ops Q I (fuel + 1) listed a w := by
  refine ⟨hI, fun e => (by rw [hr] at e; cases e), fun k hk => ?_⟩
  rw [hr] at hk
  have hk' : k = i ∨ k = j ∨ k = l := by simpa using hk
  rcases hk' with rfl | rfl | rfl
  · unfold wpOp
    simp only [ho, hw, if_true]
    exact .inl (h _ fun _ _ h => h)
  · unfold wpOp
    simp only [ho2, hw2, if_true]
    exact .inl (h2 _ fun _ _ h => h)
  · unfold wpOp
    simp only [ho3, hw3, if_true]
    exact .inl (h3 _ fun _ _ h => h)
end

/-- What the call was given. -/
structure Gvn (w : World) (s n j : Nat) (bk : Bool) (v : Value) (xs ys : Nat → Nat) : Prop where
  hs : s = w.heap.size
  hj : j < 8
  hn : n = 2 ^ j
  br : Brj w
  fp : Fp w v n xs ys

/-- What stands, after c calls; the two boxes made or not. -/
structure Sx (w : World) (s n j : Nat) (bk : Bool) (v : Value) (xs ys : Nat → Nat) (c gn G pb gt : Nat) (b7 b8 : Option Nat) (W : World) : Prop where
  gv : Gvn w s n j bk v xs ys
  bel : Below s w W
  bx : W.cell? ⟨s, 0, none⟩ = some (.int .i64 n)
  c1 : 1 ≤ c → Zr W gn n xs ys
  c2 : c = 2 → Whl W G bk ∧ W.cell? ⟨pb, 0, none⟩ = some (.bool bk) ∧ s < G
  c3 : c = 3 → Trn W (zv gt n) n bk gt
  d7 : ∀ b, b7 = some b → W.cell? ⟨b, 0, none⟩ = some (.slice none 0 0) ∧ W.frozen? ⟨b, 0, none⟩ = false ∧ s ≤ b
  d8 : ∀ b, b8 = some b → W.cell? ⟨b, 0, none⟩ = some (.slice none 0 0) ∧ W.frozen? ⟨b, 0, none⟩ = false ∧ s ≤ b
  ne : ∀ b b', b7 = some b → b8 = some b' → b ≠ b'

variable {w : World} {s n j : Nat} {bk : Bool} {v : Value} {xs ys : Nat → Nat} {c gn G pb gt : Nat} {b7 b8 : Option Nat} {W : World}

theorem Gvn.pos (h : Gvn w s n j bk v xs ys) : 1 ≤ n ∧ n ≤ 128 := by
  have h1 := h.hj
  rw [h.hn]
  exact ⟨Nat.two_pow_pos j, Nat.pow_le_pow_right (by decide) (by omega : j ≤ 7)⟩

theorem Sx.lt (h : Sx w s n j bk v xs ys c gn G pb gt b7 b8 W) : s < W.heap.size := World.block_lt_of_cell? W _ h.bx

/-- More memory, nothing else. -/
theorem Sx.below {W' : World} (h : Sx w s n j bk v xs ys c gn G pb gt b7 b8 W) (hb : Below W.heap.size W W') : Sx w s n j bk v xs ys c gn G pb gt b7 b8 W' :=
  ⟨h.gv, h.bel.trans (hb.mono (Nat.le_of_lt h.lt)), keepc hb h.bx, fun hc => (h.c1 hc).below hb, fun hc => ⟨(h.c2 hc).1.below hb, keepc hb (h.c2 hc).2.1, (h.c2 hc).2.2⟩, fun hc => (h.c3 hc).below hb,
   fun b e => ⟨keepc hb (h.d7 b e).1, keepf hb (h.d7 b e).1 (h.d7 b e).2.1, (h.d7 b e).2.2⟩, fun b e => ⟨keepc hb (h.d8 b e).1, keepf hb (h.d8 b e).1 (h.d8 b e).2.1, (h.d8 b e).2.2⟩, h.ne⟩

theorem Sx.drew (h : Sx w s n j bk v xs ys c gn G pb gt b7 b8 W) : Sx w s n j bk v xs ys c gn G pb gt b7 b8 W.drew := h.below (Below.refl _ _).drew

theorem Sx.a7 (h : Sx w s n j bk v xs ys c gn G pb gt none b8 W) : Sx w s n j bk v xs ys c gn G pb gt (some W.heap.size) b8 (W.alloc (.cells #[.slice none 0 0] 47)) := by
  have hb := below_one W (.cells #[.slice none 0 0] 47)
  have k := h.below hb
  refine ⟨k.gv, k.bel, k.bx, k.c1, k.c2, k.c3, fun b e => ?_, k.d8, fun b b' e e' => ?_⟩
  · obtain rfl := Option.some.inj e
    exact ⟨by simp, by simp, Nat.le_of_lt h.lt⟩
  · obtain rfl := Option.some.inj e
    have := World.block_lt_of_cell? W _ (h.d8 b' e').1
    exact fun h => by simp at this; omega

theorem Sx.a8 (h : Sx w s n j bk v xs ys c gn G pb gt b7 none W) : Sx w s n j bk v xs ys c gn G pb gt b7 (some W.heap.size) (W.alloc (.cells #[.slice none 0 0] 47)) := by
  have hb := below_one W (.cells #[.slice none 0 0] 47)
  have k := h.below hb
  refine ⟨k.gv, k.bel, k.bx, k.c1, k.c2, k.c3, k.d7, fun b e => ?_, fun b b' e e' => ?_⟩
  · obtain rfl := Option.some.inj e
    exact ⟨by simp, by simp, Nat.le_of_lt h.lt⟩
  · obtain rfl := Option.some.inj e'
    have := World.block_lt_of_cell? W _ (h.d7 b e).1
    exact fun h => by simp at this; omega

theorem Sx.k1 (h : Sx w s n j bk v xs ys 0 gn G pb gt b7 b8 W) : Calls Tryd.prog 28 #[v] W fun e w' => ∃ gn, e = .returned (zv gn n) ∧ Sx w s n j bk v xs ys 1 gn G pb gt b7 b8 w' := by
  have hp := h.gv.pos
  have hB : Below w.heap.size w W := h.gv.hs ▸ h.bel
  refine (toCs_any (h.gv.fp.below hB) (by omega)).mono ?_
  rintro e w' ⟨rfl, hz, hb⟩
  have k := h.below hb
  exact ⟨_, rfl, k.gv, k.bel, k.bx, fun _ => hz, fun h => by omega, fun h => by omega, k.d7, k.d8, k.ne⟩

theorem Sx.k2 (h : Sx w s n j bk v xs ys 1 gn G pb gt b7 b8 W) : Calls Tryd.prog 29 #[.bool bk] W fun e w' => ∃ G pb, e = .returned (.func (.func 44) #[] #[.pointer (some ⟨G, 0, none⟩), .pointer (some ⟨pb, 0, none⟩)]) ∧ Sx w s n j bk v xs ys 2 gn G pb gt b7 b8 w' := by
  refine (new_any bk W).mono ?_
  rintro e w' ⟨rfl, h1, h2, h3, hb⟩
  have k := h.below hb
  have hl := h.lt
  exact ⟨_, _, rfl, k.gv, k.bel, k.bx, fun _ => k.c1 (by omega), fun _ => ⟨h1, h2, by omega⟩, fun h => by omega, k.d7, k.d8, k.ne⟩

theorem Sx.k3 (h : Sx w s n j bk v xs ys 2 gn G pb gt b7 b8 W) : Calls Tryd.prog 44 #[.int .i64 n, .pointer (some ⟨G, 0, none⟩), .pointer (some ⟨pb, 0, none⟩)] W fun e w' => ∃ gt, e = .returned (zv gt n) ∧ Sx w s n j bk v xs ys 3 gn G pb gt b7 b8 w' := by
  have hp := h.gv.pos
  have hB : Below w.heap.size w W := h.gv.hs ▸ h.bel
  obtain ⟨hw, hpb, hsG⟩ := h.c2 rfl
  have hG0 : ∃ k x, W.cell? ⟨G, 0, none⟩ = some (.int k x) := by
    obtain ⟨_, h⟩ := hw.2 0 (by omega)
    rcases h with ⟨h, _⟩ | ⟨h, _⟩
    · exact ⟨_, _, h⟩
    · exact ⟨_, _, h⟩
  obtain ⟨kk, xx, hG0⟩ := hG0
  have n1 : pb ≠ G := fun e => by rw [e, hG0] at hpb; cases hpb
  have hz := h.c1 (by omega)
  have n2 : gn ≠ G := fun e => by have := hz.2 0 (by omega); rw [e, hG0] at this; cases this
  have n7 : ∀ b, b7 = some b → b ≠ G := fun b e he => by have := (h.d7 b e).1; rw [he, hG0] at this; cases this
  have n8 : ∀ b, b8 = some b → b ≠ G := fun b e he => by have := (h.d8 b e).1; rw [he, hG0] at this; cases this
  refine (for_any h.gv.hj h.gv.hn bk W G ⟨pb, 0, none⟩ hw (h.gv.br.below hB) hpb (World.block_lt_of_cell? W _ hpb) n1).mono ?_
  rintro e w' ⟨v, g, rfl, ht, hg, _, hk⟩
  obtain rfl := ht.1
  exact ⟨g, rfl, h.gv, Kp.after h.bel (Nat.le_of_lt h.lt) (by omega) hk, (hk.cell (p := ⟨s, 0, none⟩) h.lt (by simp; omega)).trans h.bx, fun _ => hz.kp n2 hk, fun h => by omega, fun _ => ht,
    fun b e => ⟨(hk.cell (p := ⟨b, 0, none⟩) (World.block_lt_of_cell? W _ (h.d7 b e).1) (n7 b e)).trans (h.d7 b e).1, (hk.frozen (p := ⟨b, 0, none⟩) (World.block_lt_of_cell? W _ (h.d7 b e).1) (n7 b e)).trans (h.d7 b e).2.1, (h.d7 b e).2.2⟩,
    fun b e => ⟨(hk.cell (p := ⟨b, 0, none⟩) (World.block_lt_of_cell? W _ (h.d8 b e).1) (n8 b e)).trans (h.d8 b e).1, (hk.frozen (p := ⟨b, 0, none⟩) (World.block_lt_of_cell? W _ (h.d8 b e).1) (n8 b e)).trans (h.d8 b e).2.1, (h.d8 b e).2.2⟩, h.ne⟩

/-- What stands when all is made. -/
structure Sy (w : World) (s n j : Nat) (bk : Bool) (v : Value) (xs ys : Nat → Nat) (gn gt b7 b8 : Nat) (W : World) : Prop where
  gv : Gvn w s n j bk v xs ys
  bel : Below s w W
  bx : W.cell? ⟨s, 0, none⟩ = some (.int .i64 n)
  z : Zr W gn n xs ys
  t : Trn W (zv gt n) n bk gt
  b7 : W.cell? ⟨b7, 0, none⟩ = some (zv gn n)
  b8 : W.cell? ⟨b8, 0, none⟩ = some (zv gt n)

theorem Sy.below {W' : World} {b7 b8 : Nat} (h : Sy w s n j bk v xs ys gn gt b7 b8 W) (hb : Below W.heap.size W W') : Sy w s n j bk v xs ys gn gt b7 b8 W' :=
  ⟨h.gv, h.bel.trans (hb.mono (Nat.le_of_lt (World.block_lt_of_cell? W _ h.bx))), keepc hb h.bx, h.z.below hb, h.t.below hb, keepc hb h.b7, keepc hb h.b8⟩

theorem Sx.stored {b7 b8 : Nat} (h : Sx w s n j bk v xs ys 3 gn G pb gt (some b7) (some b8) W) :
    Sy w s n j bk v xs ys gn gt b7 b8 ((W.setCell ⟨b7, 0, none⟩ (zv gn n)).setCell ⟨b8, 0, none⟩ (zv gt n)) ∧ (W.setCell ⟨b7, 0, none⟩ (zv gn n)).cell? ⟨b8, 0, none⟩ = some (.slice none 0 0) ∧ (W.setCell ⟨b7, 0, none⟩ (zv gn n)).frozen? ⟨b8, 0, none⟩ = false ∧ (W.setCell ⟨b7, 0, none⟩ (zv gn n)).cell? ⟨s, 0, none⟩ = some (.int .i64 n) := by
  have hp := h.gv.pos
  have hz := h.c1 (by omega)
  have ht := h.c3 rfl
  obtain ⟨e7, f7, l7⟩ := h.d7 _ rfl
  obtain ⟨e8, f8, l8⟩ := h.d8 _ rfl
  have n1 : b7 ≠ b8 := h.ne _ _ rfl rfl
  have n2 : b7 ≠ s := fun e => by have := h.bx; rw [← e, e7] at this; cases this
  have n3 : b8 ≠ s := fun e => by have := h.bx; rw [← e, e8] at this; cases this
  have n4 : b7 ≠ gn := fun e => by have := hz.2 0 (by omega); rw [← e, e7] at this; cases this
  have n5 : b8 ≠ gn := fun e => by have := hz.2 0 (by omega); rw [← e, e8] at this; cases this
  obtain ⟨t0, t1, X, Y, t2⟩ := ht
  have n6 : b7 ≠ gt := fun e => by have := (t2 0 (by omega)).1; rw [← e, e7] at this; cases this
  have n7 : b8 ≠ gt := fun e => by have := (t2 0 (by omega)).1; rw [← e, e8] at this; cases this
  have o : ∀ (p : Addr) (X : World) (u : Value) (g : Nat), p.block ≠ g → (X.setCell ⟨g, 0, none⟩ u).cell? p = X.cell? p := fun p X u g hg => World.cell?_setCell_other _ _ _ _ (fun h => hg (by rw [← h]))
  refine ⟨⟨h.gv, (h.bel.setCell l7 _).setCell l8 _, ?_, ⟨by simpa using hz.1, fun k hk => ?_⟩, ⟨t0, by simpa using t1, X, Y, fun k hk => ⟨?_, (t2 k hk).2⟩⟩, ?_, ?_⟩, ?_, by simpa using f8, ?_⟩
  · rw [o _ _ _ _ (Ne.symm n3), o _ _ _ _ (Ne.symm n2)]; exact h.bx
  · rw [o _ _ _ _ (Ne.symm n5), o _ _ _ _ (Ne.symm n4)]; exact hz.2 k hk
  · rw [o _ _ _ _ (Ne.symm n7), o _ _ _ _ (Ne.symm n6)]; exact (t2 k hk).1
  · rw [o _ _ _ _ n1]; exact World.cell?_setCell_same _ _ _ e7
  · exact World.cell?_setCell_same (u := .slice none 0 0) _ _ _ ((o ⟨b8, 0, none⟩ _ _ _ (Ne.symm n1)).trans e8)
  · exact (o ⟨b8, 0, none⟩ _ _ _ (Ne.symm n1)).trans e8
  · exact (o ⟨s, 0, none⟩ _ _ _ (Ne.symm n2)).trans h.bx
end Go.Proofs.YtlcnciibjhcbiaaDoor
