/- UnRice: the program. -/
import Derived.Test.YtndagpompioooabDoorUE
import Derived.Test.YtndagpompioooabDoorRA
import Derived.Defers
import Derived.BigQuiet
namespace Go.Proofs.YtndagpompioooabDoor
open Go.RowKit

theorem own_slice3 {w : World} {B n : Nat} {v : Value} {L : List Value} (h : w.ownsRow B 3 1 v n L) : ∃ a c, v = .slice a n c := by
  rcases h.2 with ⟨rfl, rfl⟩ | ⟨g, cap, cur, rfl, _⟩
  · exact ⟨none, 0, rfl⟩
  · exact ⟨_, _, rfl⟩

theorem Keep.cellk {c : Nat} {W w : World} (h : Keep c W w) {k off : Nat} {x : Value} (hk : k ≠ c) (hx : W.cell? ⟨k, off, none⟩ = some x) : w.cell? ⟨k, off, none⟩ = some x := (h.cell (p := ⟨k, off, none⟩) hk (World.block_lt_of_cell? W _ hx)).trans hx
theorem Keep.frozenk {c : Nat} {W w : World} (h : Keep c W w) {k off : Nat} (hk : k ≠ c) (hl : k < W.heap.size) : w.frozen? ⟨k, off, none⟩ = W.frozen? ⟨k, off, none⟩ := World.frozen?_of_block (w := W) (h.block k hk hl)

theorem frozen_new (w : World) (x : Value) (t : TypeId) : (w.alloc (.cells #[x] t)).frozen? ⟨w.heap.size, 0, none⟩ = false := by simp

/-- What UnRice tells. -/
def Pur (w w' : World) (e : Ending) (N : Nat) (ys : Nat → Int) (c : Int) (ok : Bool) : Prop := ∃ u, e = .returned (.tuple #[u, .int .i64 c, .bool ok]) ∧ w'.ownsRow w.heap.size 3 1 u N (ils ys N) ∧ Below w.heap.size w w'

end Go.Proofs.YtndagpompioooabDoor
