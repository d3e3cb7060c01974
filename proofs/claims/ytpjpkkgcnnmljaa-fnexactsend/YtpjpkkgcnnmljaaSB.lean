/- A passage. -/
import Derived.Test.YtpjpkkgcnnmljaaRH
namespace Go.Proofs.Ytpjpkkgcnnmljaa
open Go.RowKit

/-- What a call leaves that turns the block p and makes memory of its own. -/
structure Kp (p : Nat) (W w : World) : Prop where
  os : w.os = W.os
  tape : w.tape = W.tape
  output : w.output = W.output
  size : W.heap.size ≤ w.heap.size
  block : ∀ k, k ≠ p → k < W.heap.size → w.heap[k]? = W.heap[k]?
theorem Kp.refl (p : Nat) (W : World) : Kp p W W := ⟨rfl, rfl, rfl, Nat.le_refl _, fun _ _ _ => rfl⟩
theorem Kp.trans {p : Nat} {W X Y : World} (h : Kp p W X) (k : Kp p X Y) : Kp p W Y := ⟨k.os.trans h.os, k.tape.trans h.tape, k.output.trans h.output, Nat.le_trans h.size k.size, fun j hj hl => (k.block j hj (Nat.lt_of_lt_of_le hl h.size)).trans (h.block j hj hl)⟩
theorem Kp.below {p : Nat} {W X Y : World} (h : Kp p W X) (b : Below X.heap.size X Y) : Kp p W Y := ⟨b.os.trans h.os, b.tape.trans h.tape, b.output.trans h.output, Nat.le_trans h.size b.size, fun j hj hl => (b.block j (Nat.lt_of_lt_of_le hl h.size)).trans (h.block j hj hl)⟩
theorem Kp.put {p : Nat} {W X : World} (h : Kp p W X) (o : Nat) (v : Value) : Kp p W (X.setCell ⟨p, o, none⟩ v) := by
  have ho := (Only.refl p X).put o v
  exact ⟨ho.os.trans h.os, ho.tape.trans h.tape, ho.output.trans h.output, Nat.le_trans h.size ho.size, fun j hj hl => (ho.block j hj).trans (h.block j hj hl)⟩
theorem Kp.drew {p : Nat} {W X : World} (h : Kp p W X) : Kp p W X.drew := h.below (Below.refl _ _).drew
theorem Kp.cell {p : Nat} {W w : World} (h : Kp p W w) {q : Addr} (hq : q.block ≠ p) (hl : q.block < W.heap.size) : w.cell? q = W.cell? q := World.cell?_of_block (w := W) (h.block _ hq hl)

/-- A passage in its block. -/
structure Pas (W : World) (p : Nat) (wi me ro se ra si : Int) (bv iv pv : Value) : Prop where
  c0 : W.cell? ⟨p, 0, none⟩ = some (.int .i64 wi)
  c1 : W.cell? ⟨p, 1, none⟩ = some (.int .i64 me)
  c2 : W.cell? ⟨p, 2, none⟩ = some (.int .i64 ro)
  c3 : W.cell? ⟨p, 3, none⟩ = some (.int .i64 se)
  c4 : W.cell? ⟨p, 4, none⟩ = some (.int .i64 ra)
  c5 : W.cell? ⟨p, 5, none⟩ = some (.int .i64 si)
  c7 : W.cell? ⟨p, 7, none⟩ = some bv
  c8 : W.cell? ⟨p, 8, none⟩ = some iv
  c9 : W.cell? ⟨p, 9, none⟩ = some pv
  z7 : W.frozen? ⟨p, 7, none⟩ = false
  z8 : W.frozen? ⟨p, 8, none⟩ = false
  z9 : W.frozen? ⟨p, 9, none⟩ = false
theorem Pas.lt {W : World} {p : Nat} {wi me ro se ra si : Int} {bv iv pv : Value} (h : Pas W p wi me ro se ra si bv iv pv) : p < W.heap.size := World.block_lt_of_cell? W _ h.c0
theorem Pas.below {W X : World} {B p : Nat} {wi me ro se ra si : Int} {bv iv pv : Value} (h : Pas W p wi me ro se ra si bv iv pv) (b : Below B W X) (hp : p < B) : Pas X p wi me ro se ra si bv iv pv :=
  ⟨(b.cell hp).trans h.c0, (b.cell hp).trans h.c1, (b.cell hp).trans h.c2, (b.cell hp).trans h.c3, (b.cell hp).trans h.c4, (b.cell hp).trans h.c5, (b.cell hp).trans h.c7, (b.cell hp).trans h.c8, (b.cell hp).trans h.c9, (b.frozen hp).trans h.z7, (b.frozen hp).trans h.z8, (b.frozen hp).trans h.z9⟩
theorem Pas.drew {W : World} {p : Nat} {wi me ro se ra si : Int} {bv iv pv : Value} (h : Pas W p wi me ro se ra si bv iv pv) : Pas W.drew p wi me ro se ra si bv iv pv := h.below (Below.refl _ _).drew h.lt
theorem Pas.put7 {W : World} {p : Nat} {wi me ro se ra si : Int} {bv iv pv : Value} (h : Pas W p wi me ro se ra si bv iv pv) (u : Value) : Pas (W.setCell ⟨p, 7, none⟩ u) p wi me ro se ra si u iv pv :=
  ⟨by simp [go_sem, h.c0], by simp [go_sem, h.c1], by simp [go_sem, h.c2], by simp [go_sem, h.c3], by simp [go_sem, h.c4], by simp [go_sem, h.c5], World.cell?_setCell_same' _ _ _ (by rw [h.c7]; rfl), by simp [go_sem, h.c8], by simp [go_sem, h.c9], by simp [go_sem, h.z7], by simp [go_sem, h.z8], by simp [go_sem, h.z9]⟩
theorem Pas.put8 {W : World} {p : Nat} {wi me ro se ra si : Int} {bv iv pv : Value} (h : Pas W p wi me ro se ra si bv iv pv) (u : Value) : Pas (W.setCell ⟨p, 8, none⟩ u) p wi me ro se ra si bv u pv :=
  ⟨by simp [go_sem, h.c0], by simp [go_sem, h.c1], by simp [go_sem, h.c2], by simp [go_sem, h.c3], by simp [go_sem, h.c4], by simp [go_sem, h.c5], by simp [go_sem, h.c7], World.cell?_setCell_same' _ _ _ (by rw [h.c8]; rfl), by simp [go_sem, h.c9], by simp [go_sem, h.z7], by simp [go_sem, h.z8], by simp [go_sem, h.z9]⟩
theorem Pas.put9 {W : World} {p : Nat} {wi me ro se ra si : Int} {bv iv pv : Value} (h : Pas W p wi me ro se ra si bv iv pv) (u : Value) : Pas (W.setCell ⟨p, 9, none⟩ u) p wi me ro se ra si bv iv u :=
  ⟨by simp [go_sem, h.c0], by simp [go_sem, h.c1], by simp [go_sem, h.c2], by simp [go_sem, h.c3], by simp [go_sem, h.c4], by simp [go_sem, h.c5], by simp [go_sem, h.c7], by simp [go_sem, h.c8], World.cell?_setCell_same' _ _ _ (by rw [h.c9]; rfl), by simp [go_sem, h.z7], by simp [go_sem, h.z8], by simp [go_sem, h.z9]⟩

theorem own_kp {p : Nat} {W w : World} (h : Kp p W w) {B s n : Nat} {e : TypeId} {v : Value} {xs : List Value} (ho : W.ownsRow B e s v n xs) (hp : p < B) : w.ownsRow B e s v n xs := by
  refine ⟨ho.1, ?_⟩
  rcases ho.2 with h' | ⟨g', cap', cur, h', hb', hg', rest⟩
  · exact .inl h'
  · exact .inr ⟨g', cap', cur, h', hb', (h.block g' (by omega) (Array.getElem?_eq_some_iff.1 hg').1).trans hg', rest⟩
end Go.Proofs.Ytpjpkkgcnnmljaa
