/- Rows of lists of ints: marked, held, measured. -/
import Derived.Test.YtabdondefoldaaaDoorGN
namespace Go.Proofs.YtabdondefoldaaaDoor
open Go.RowKit

/-- How many numbers the first k rows have. -/
def tot (ms : Nat → Nat) : Nat → Nat
  | 0 => 0
  | k + 1 => tot ms k + ms k

theorem tot_le {ms : Nat → Nat} {n : Nat} (h : ∀ k, k < n → ms k ≤ 1048576) : ∀ k, k ≤ n → tot ms k ≤ k * 1048576
  | 0, _ => Nat.le_refl _
  | k + 1, hk => by
    have h1 := tot_le h k (by omega)
    have h2 := h k (by omega)
    unfold tot
    omega

theorem own_ap {w w' : World} {B s n g : Nat} {e : TypeId} {v : Value} {xs : List Value} (h : w.ownsRow B e s v n xs) (ho : Only g w w') (ha : ∀ b, v.ownBlock = some b → b ≠ g) : w'.ownsRow B e s v n xs := by
  refine ⟨h.1, ?_⟩
  rcases h.2 with h' | ⟨g', cap', cur, rfl, hb', hg', rest⟩
  · exact .inl h'
  · exact .inr ⟨g', cap', cur, rfl, hb', (ho.block g' (ha g' rfl)).trans hg', rest⟩

/-- Marked up to row q. -/
def mkq (ms : Nat → Nat) (X : Nat → Nat → Int) (K : Int) (q k : Nat) : Nat → Int := if k < q then mkF (K + (tot ms k : Int)) else X k

end Go.Proofs.YtabdondefoldaaaDoor
