/- Pairs in memory, and the program's sum. -/
import Derived.Test.YtlcnciibjhcbiaaDoorP1
import Derived.Test.YtlcnciibjhcbiaaDoorI1
import Derived.Deep.RegionWith
namespace Go.Proofs.YtlcnciibjhcbiaaDoor
open Go.RowKit

/-- A pair lies in a block of its own. -/
structure Rb (W : World) (g x y : Nat) : Prop where
  c0 : W.cell? ⟨g, 0, none⟩ = some (.float .f64 x)
  c1 : W.cell? ⟨g, 1, none⟩ = some (.float .f64 y)
  z0 : W.frozen? ⟨g, 0, none⟩ = false
  z1 : W.frozen? ⟨g, 1, none⟩ = false

theorem Rb.lt {W : World} {g x y : Nat} (h : Rb W g x y) : g < W.heap.size := World.block_lt_of_cell? W _ h.c0

theorem Rb.below {W W' : World} {g x y B : Nat} (h : Rb W g x y) (hb : Below B W W') (hg : g < B) : Rb W' g x y :=
  ⟨(hb.cell hg).trans h.c0, (hb.cell hg).trans h.c1, (hb.frozen hg).trans h.z0, (hb.frozen hg).trans h.z1⟩

theorem Rb.call {W W' : World} {g x y : Nat} (h : Rb W g x y) (hb : Below W.heap.size W W') : Rb W' g x y := h.below hb h.lt

theorem Rb.fwor {W : World} {g x y : Nat} (h : Rb W g x y) (op : BinOp) (a b : Nat) : Rb (fwor op W a b) g x y := h.call (below_fwor (Below.refl _ _) _ _ _)

theorem Rb.drew {W : World} {g x y : Nat} (h : Rb W g x y) : Rb W.drew g x y := h.call (Below.refl _ _).drew

theorem Rb.alloc {W : World} {g x y : Nat} (h : Rb W g x y) (o : Obj) : Rb (W.alloc o) g x y := h.call (below_one _ _)

theorem Rb.new (w : World) (x y : Nat) (t : TypeId) {g : Nat} (hg : w.heap.size = g) : Rb (w.alloc (.cells #[.float .f64 x, .float .f64 y] t)) g x y := by
  subst hg
  exact ⟨by simp, by simp, by simp, by simp⟩

theorem Rb.put {W : World} {g x y : Nat} (h : Rb W g x y) (x' y' : Nat) : Rb ((W.setCell ⟨g, 0, none⟩ (.float .f64 x')).setCell ⟨g, 1, none⟩ (.float .f64 y')) g x' y' := by
  obtain ⟨c0, c1, z0, z1⟩ := h
  exact ⟨by simp [go_sem, c0], by simp [go_sem, c1], by simp [go_sem, z0], by simp [go_sem, z1]⟩

theorem Rb.other {W : World} {g x y : Nat} (h : Rb W g x y) {p : Addr} (hp : p.block ≠ g) (v : Value) : Rb (W.setCell p v) g x y := by
  have e : (W.setCell p v).heap[g]? = W.heap[g]? := Below.heap_setCell _ _ _ _ (Ne.symm hp)
  exact ⟨(World.cell?_of_block (w := W) e).trans h.c0, (World.cell?_of_block (w := W) e).trans h.c1, (World.frozen?_of_block (w := W) e).trans h.z0, (World.frozen?_of_block (w := W) e).trans h.z1⟩

theorem bgo {B : Nat} {w w1 w2 : World} (h1 : Below B w w1) (hB : B ≤ w.heap.size) (h2 : Below w1.heap.size w1 w2) : Below B w w2 := h1.trans (h2.mono (Nat.le_trans hB h1.size))

end Go.Proofs.YtlcnciibjhcbiaaDoor
