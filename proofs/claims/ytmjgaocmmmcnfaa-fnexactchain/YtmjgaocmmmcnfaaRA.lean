/- What a step may turn; a comb's step. -/
import Derived.Test.YtmjgaocmmmcnfaaMK
import Derived.Test.YtmjgaocmmmcnfaaAP
import Derived.BigRegion
namespace Go.Proofs.Ytmjgaocmmmcnfaa
open Go.RowKit

/-- Nothing old has turned but in the blocks of D. -/
structure Kd (D : Nat → Prop) (w w' : World) : Prop where
  os : w'.os = w.os
  tape : w'.tape = w.tape
  output : w'.output = w.output
  size : w.heap.size ≤ w'.heap.size
  block : ∀ k, k < w.heap.size → ¬ D k → w'.heap[k]? = w.heap[k]?

theorem Kd.refl (D : Nat → Prop) (w : World) : Kd D w w := ⟨rfl, rfl, rfl, Nat.le_refl _, fun _ _ _ => rfl⟩

theorem Kd.trans {D : Nat → Prop} {w w1 w2 : World} (h : Kd D w w1) (h' : Kd D w1 w2) : Kd D w w2 :=
  ⟨h'.os.trans h.os, h'.tape.trans h.tape, h'.output.trans h.output, Nat.le_trans h.size h'.size, fun k hk hd => (h'.block k (Nat.lt_of_lt_of_le hk h.size) hd).trans (h.block k hk hd)⟩

theorem Kd.mono {D E : Nat → Prop} {w w1 : World} (h : Kd D w w1) (hd : ∀ g, D g → E g) : Kd E w w1 := ⟨h.os, h.tape, h.output, h.size, fun k hk he => h.block k hk (fun x => he (hd k x))⟩

theorem Kd.of_below {D : Nat → Prop} {w w1 : World} (h : Below w.heap.size w w1) : Kd D w w1 := ⟨h.os, h.tape, h.output, h.size, fun k hk _ => h.block k hk⟩

theorem Kd.put {D : Nat → Prop} {w w' : World} (h : Kd D w w') {g : Nat} (hg : D g ∨ w.heap.size ≤ g) (j : Nat) (u : Value) : Kd D w (w'.setCell ⟨g, j, none⟩ u) :=
  ⟨h.os, h.tape, h.output, by simpa [World.setCell] using h.size, fun k hk hd => (Below.heap_setCell _ _ _ _ (by rintro rfl; rcases hg with hg | hg; exact hd hg; omega)).trans (h.block k hk hd)⟩

theorem Kd.below {D : Nat → Prop} {B : Nat} {w0 w w' : World} (hb : Below B w0 w) (h : Kd D w w') (hB : B ≤ w.heap.size) (hd : ∀ g, D g → B ≤ g) : Below B w0 w' :=
  hb.trans ⟨h.os, h.tape, h.output, h.size, fun k hk => h.block k (by omega) (fun x => by have := hd k x; omega)⟩

theorem own_kd {D : Nat → Prop} {w w' : World} {B s n : Nat} {e : TypeId} {v : Value} {xs : List Value} (h : w.ownsRow B e s v n xs) (hk : Kd D w w') (hd : ∀ g, v.ownBlock = some g → ¬ D g) : w'.ownsRow B e s v n xs := by
  refine ⟨h.1, ?_⟩
  rcases h.2 with h' | ⟨g', cap', cur, rfl, hb', hg, rest⟩
  · exact .inl h'
  · exact .inr ⟨g', cap', cur, rfl, hb', (hk.block g' (Array.getElem?_eq_some_iff.1 hg).1 (hd g' rfl)).trans hg, rest⟩

theorem own_block {w w' : World} {B s n g c : Nat} {e : TypeId} {xs : List Value} (h : w.ownsRow B e s (.slice (some ⟨g, 0, none⟩) n c) n xs) (hk : w'.heap[g]? = w.heap[g]?) : w'.ownsRow B e s (.slice (some ⟨g, 0, none⟩) n c) n xs := by
  refine ⟨h.1, ?_⟩
  rcases h.2 with h' | ⟨g', cap', cur, h', hb', hg, rest⟩
  · exact .inl h'
  · have e1 : g' = g := by injection h' with h1; injection h1 with h2; injection h2 with h3; exact h3.symm
    subst e1
    exact .inr ⟨g', cap', cur, h', hb', hk.trans hg, rest⟩

/-- A struct of two in a block of its own. -/
structure Rg (W : World) (g : Nat) (x y : Value) : Prop where
  c0 : W.cell? ⟨g, 0, none⟩ = some x
  c1 : W.cell? ⟨g, 1, none⟩ = some y
  z0 : W.frozen? ⟨g, 0, none⟩ = false
  z1 : W.frozen? ⟨g, 1, none⟩ = false

theorem Rg.lt {W : World} {g : Nat} {x y : Value} (h : Rg W g x y) : g < W.heap.size := World.block_lt_of_cell? W _ h.c0

theorem Rg.new (w : World) (x y : Value) (t : TypeId) : Rg (w.alloc (.cells #[x, y] t)) w.heap.size x y := ⟨by simp, by simp, by simp, by simp⟩

theorem Rg.block {W W' : World} {g : Nat} {x y : Value} (h : Rg W g x y) (e : W'.heap[g]? = W.heap[g]?) : Rg W' g x y :=
  ⟨(World.cell?_of_block (w := W) e).trans h.c0, (World.cell?_of_block (w := W) e).trans h.c1, (World.frozen?_of_block (w := W) e).trans h.z0, (World.frozen?_of_block (w := W) e).trans h.z1⟩

theorem Rg.put0 {W : World} {g : Nat} {x y : Value} (h : Rg W g x y) (x' : Value) : Rg (W.setCell ⟨g, 0, none⟩ x') g x' y := by
  obtain ⟨c0, c1, z0, z1⟩ := h
  exact ⟨by simp [go_sem, c0], by simp [go_sem, c1], by simp [go_sem, z0], by simp [go_sem, z1]⟩

theorem Rg.put1 {W : World} {g : Nat} {x y : Value} (h : Rg W g x y) (y' : Value) : Rg (W.setCell ⟨g, 1, none⟩ y') g x y' := by
  obtain ⟨c0, c1, z0, z1⟩ := h
  exact ⟨by simp [go_sem, c0], by simp [go_sem, c1], by simp [go_sem, z0], by simp [go_sem, z1]⟩

/-- A comb: its samples in a ring, the place of the oldest. -/
structure Cb (W : World) (B C P m : Nat) (f : Nat → Int) (o : Nat) : Prop where
  rg : Rg W C (.slice (some ⟨P, 0, none⟩) m m) (.int .i64 (o : Int))
  own : W.ownsRow B 3 1 (.slice (some ⟨P, 0, none⟩) m m) m (ils f m)
  ne : C ≠ P
  lt : o < m

abbrev CbD (C P : Nat) (g : Nat) : Prop := g = C ∨ g = P

theorem Cb.block {W W' : World} {B C P m o : Nat} {f : Nat → Int} (h : Cb W B C P m f o) (e : ∀ g, CbD C P g → W'.heap[g]? = W.heap[g]?) : Cb W' B C P m f o :=
  ⟨h.rg.block (e C (.inl rfl)), own_block h.own (e P (.inr rfl)), h.ne, h.lt⟩

theorem Kd.drewN {D : Nat → Prop} {w w' : World} (h : Kd D w w') (n : Nat) : Kd D w (w'.drewN n) :=
  h.trans ⟨rfl, rfl, rfl, Nat.le_refl _, fun _ _ _ => rfl⟩

theorem Cb.drewN {W : World} {B C P m o : Nat} {f : Nat → Int} (h : Cb W B C P m f o) (n : Nat) : Cb (W.drewN n) B C P m f o :=
  h.block (fun g _ => by simp)

theorem Kd.drew {D : Nat → Prop} {w w' : World} (h : Kd D w w') : Kd D w w'.drew := h.drewN 1

theorem Cb.drew {W : World} {B C P m o : Nat} {f : Nat → Int} (h : Cb W B C P m f o) : Cb W.drew B C P m f o := h.drewN 1

theorem Cb.putP {W : World} {B C P m o : Nat} {f : Nat → Int} (h : Cb W B C P m f o) (k : Nat) (x : Int) : Cb (W.setCell ⟨P, k, none⟩ (.int .i64 x)) B C P m (fun i => if i = k then x else f i) o := by
  have st := (World.ownsRow.stored h.own k (.int .i64 x)).1
  rw [ils_put] at st
  exact ⟨h.rg.block (Below.heap_setCell _ _ _ _ h.ne), st, h.ne, h.lt⟩

theorem Cb.putC {W : World} {B C P m o : Nat} {f : Nat → Int} (h : Cb W B C P m f o) {k : Nat} (hk : k < m) : Cb (W.setCell ⟨C, 1, none⟩ (.int .i64 (k : Int))) B C P m f k :=
  ⟨h.rg.put1 _, own_block h.own (Below.heap_setCell _ _ _ _ (fun e => h.ne e.symm)), h.ne, hk⟩

end Go.Proofs.Ytmjgaocmmmcnfaa
