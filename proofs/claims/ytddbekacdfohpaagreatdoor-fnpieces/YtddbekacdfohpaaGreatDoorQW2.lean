/- The walks of Order, on both sides. -/
import Derived.Test.YtddbekacdfohpaaGreatDoorM14
import Derived.WalkSpells
import Derived.WalkLawsBesides
import Derived.Deep.QuietTactic
import Derived.BigQuiet
import Derived.RegionTactic
import Derived.Deep.RegionWith
namespace Go.Proofs.YtddbekacdfohpaaGreatDoor.Q
open Go.RowKit

/-- -1, 0, 1 as x is less than, the same as, greater than y. -/
def cmp3 (x y : Int) : Int := if x < y then -1 else if y < x then 1 else 0

theorem bcell {W w1 : World} (hb : Below W.heap.size W w1) : (∀ b o, b < W.heap.size → w1.cell? ⟨b, o, none⟩ = W.cell? ⟨b, o, none⟩) ∧ (∀ b o, b < W.heap.size → w1.frozen? ⟨b, o, none⟩ = W.frozen? ⟨b, o, none⟩) :=
  ⟨fun b o h => hb.cell (p := ⟨b, o, none⟩) h, fun b o h => hb.frozen (p := ⟨b, o, none⟩) h⟩

theorem below3 {w w1 w2 : World} (o : Obj) (hb1 : Below (w.alloc o).drew.heap.size (w.alloc o).drew w1) (hb2 : Below w1.heap.size w1 w2) : Below w.heap.size w w2 := by
  have h0 : Below w.heap.size w (w.alloc o).drew := ((Below.refl _ _).alloc (Nat.le_refl _) _).drew
  have h1 : w.heap.size ≤ (w.alloc o).drew.heap.size := h0.size
  have h2 : (w.alloc o).drew.heap.size ≤ w1.heap.size := hb1.size
  exact (h0.trans (hb1.mono h1)).trans (hb2.mono (Nat.le_trans h1 h2))

theorem div_ok {x D : Int} (h0 : 0 ≤ x) (h1 : x < D) : (x / D == 0) = true := by
  rw [beq_iff_eq]
  exact Int.ediv_eq_zero_of_lt h0 h1

end Go.Proofs.YtddbekacdfohpaaGreatDoor.Q
