/- Map: the law. -/
import Derived.Test.YtlcfcdpgggocnaaAW
import Derived.Test.YtlcfcdpgggocnaaPA
namespace Go.Proofs.Ytlcfcdpgggocnaa
open Go.RowKit

theorem own_only2 {w w' w3 : World} {B3 s s2 n m g : Nat} {e e2 : TypeId} {v x : Value} {xs L : List Value} (h : w.ownsRow w3.heap.size e s v n xs) (ho : Only g w w') (hor : x.ownBlock = some g ∨ w' = w) (hx : w3.ownsRow B3 e2 s2 x m L) : w'.ownsRow w3.heap.size e s v n xs := by
  rcases hor with hg | rfl
  · exact own_only h ho (World.ownsRow.lt hx g hg).2
  · exact h

end Go.Proofs.Ytlcfcdpgggocnaa
