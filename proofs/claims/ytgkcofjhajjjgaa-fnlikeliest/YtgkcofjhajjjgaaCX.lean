/- Blocks beside each other. -/
import Derived.Test.YtgkcofjhajjjgaaCA
import Derived.Test.YtgkcofjhajjjgaaI1
namespace Go.Proofs.Ytgkcofjhajjjgaa
open Go.RowKit

theorem Stm.put {w : World} {g : Nat} {c l : Int} (h : Stm w g c l) (c' l' : Int) : Stm ((w.setCell ⟨g, 0, none⟩ (.int .i64 c')).setCell ⟨g, 1, none⟩ (.int .i64 l')) g c' l' := by
  obtain ⟨c0, c1, z0, z1⟩ := h
  exact ⟨by simp [go_sem, c0], by simp [go_sem, c1], by simp [go_sem, z0], by simp [go_sem, z1]⟩

theorem bgo {B : Nat} {w w1 w2 : World} (h1 : Below B w w1) (hB : B ≤ w.heap.size) (h2 : Below w1.heap.size w1 w2) : Below B w w2 := h1.trans (h2.mono (Nat.le_trans hB h1.size))
theorem size_one (w : World) (o : Obj) : (w.alloc o).heap.size = w.heap.size + 1 := Array.size_push _
end Go.Proofs.Ytgkcofjhajjjgaa
