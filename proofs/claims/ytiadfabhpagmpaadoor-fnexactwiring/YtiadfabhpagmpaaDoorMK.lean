/- Marks from K on, and rows that lie apart. -/
import Derived.Test.YtiadfabhpagmpaaDoorC1
namespace Go.Proofs.YtiadfabhpagmpaaDoor
open Go.RowKit

/-- Marks from K on. -/
def mkF (K : Int) (i : Nat) : Int := K + (i : Int)

/-- Two rows in two blocks. -/
def Apart (u v : Value) : Prop := u.ownBlock = none ∨ u.ownBlock ≠ v.ownBlock

theorem apart_symm {u v : Value} (h : Apart u v) : Apart v u := by
  unfold Apart at *
  rcases h with h | h
  · rw [h]
    by_cases hv : v.ownBlock = none
    · exact .inl hv
    · exact .inr hv
  · exact .inr (fun e => h e.symm)

theorem own_apart {w w' : World} {B s n g : Nat} {e : TypeId} {v x : Value} {xs : List Value} (h : w.ownsRow B e s v n xs) (ho : Only g w w') (hor : x.ownBlock = some g ∨ w' = w) (ha : Apart v x) : w'.ownsRow B e s v n xs := by
  rcases hor with hg | rfl
  · refine ⟨h.1, ?_⟩
    rcases h.2 with h' | ⟨g', cap', cur, rfl, hb', hg', rest⟩
    · exact .inl h'
    · have hne : g' ≠ g := by
        rintro rfl
        rcases ha with ha | ha
        · cases ha
        · exact ha hg.symm
      exact .inr ⟨g', cap', cur, rfl, hb', (ho.block g' hne).trans hg', rest⟩
  · exact h

end Go.Proofs.YtiadfabhpagmpaaDoor
