/- The model's draws of a form, a rounding, bits of a form. -/
import Derived.Test.YtcmjhgijejmiaaaQD1
import Derived.Test.YtcmjhgijejmiaaaQU3
namespace Go.Proofs.Ytcmjhgijejmiaaa.Q
open Go.RowKit

theorem Cur.alloc {W w : World} {c : Nat} {a : Option Addr} {len cap : Nat} (h : Cur W w c a len cap) (o : Obj) : Cur W (w.alloc o) c a len cap := by
  obtain ⟨hr, hsh, hbl, hlt, hge, hb, ⟨i, hh, hi0, hi1, hci, hch⟩, hfz⟩ := h
  have p : ∀ j, (w.alloc o).cell? ⟨c, j, none⟩ = w.cell? ⟨c, j, none⟩ := fun j => World.cell?_alloc_lt _ _ _ hlt
  refine ⟨hr, hsh, hbl.alloc hbl.size _, by simp; omega, hge, by rw [p]; exact hb, ⟨i, hh, hi0, hi1, by rw [p]; exact hci, by rw [p]; exact hch⟩, fun j => ?_⟩
  have := Below.frozen (B := w.heap.size) (w := w) (w' := w.alloc o) ((Below.refl _ _).alloc (Nat.le_refl _) _) (p := ⟨c, j, none⟩) hlt
  rw [this]
  exact hfz j

theorem two_cells {w : World} {B : Nat} {v0 v1 : Int} (x : Int) (h0 : 0 ≤ x) (h1 : x < 2) (k0 : w.cell? ⟨B, 0, none⟩ = some (.int .i64 v0)) (k1 : w.cell? ⟨B, 1, none⟩ = some (.int .i64 v1)) :
    ∃ v, w.cell? ⟨B, x.toNat, none⟩ = some (.int .i64 v) := by
  have : x = 0 ∨ x = 1 := by omega
  rcases this with rfl | rfl
  · exact ⟨v0, k0⟩
  · exact ⟨v1, k1⟩

end Go.Proofs.Ytcmjhgijejmiaaa.Q
