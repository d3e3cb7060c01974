/- The model's Fast: the list in two. -/
import Derived.Test.YtlcnciibjhcbiaaDoorPD
namespace Go.Proofs.YtlcnciibjhcbiaaDoor
open Go.RowKit

theorem own_some {w : World} {B s n : Nat} {e : TypeId} {v : Value} {xs : List Value} (h : w.ownsRow B e s v n xs) (h0 : 0 < n) : v.ownBlock ≠ none := by
  rcases h.2 with ⟨h1, h2⟩ | ⟨g, cap, cur, h1, _⟩
  · omega
  · subst h1
    simp [Value.ownBlock]

theorem apart_rev {t o : Value} (h : Apart t o) (h0 : o.ownBlock ≠ none) : Apart o t := by
  rcases h with h | h
  · exact .inr (by rw [h]; exact h0)
  · exact .inr (Ne.symm h)
end Go.Proofs.YtlcnciibjhcbiaaDoor
