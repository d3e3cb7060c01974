/- A list of bytes out of what an argument reads as. -/
import Derived.Test.YtlccicbgepfbbaaD1
import Derived.Test.YtlccicbgepfbbaaO1
import Derived.ProofKit
import Derived.OpenShut
namespace Go.Proofs.Ytlccicbgepfbbaa
open Go.ChangeShapes Go.WideShapes Go.ChangeAt Go.WideMaps Go.WideElems Go.RowKit

/-- What the reading of a list of bytes gives the walk. -/
theorem row_of {H : Type} {enc : TypeId × Value → H} {W : World} {base : Nat} {sp : Nat → Bool} {held : Bool} {fuel : Nat} {a : Option Addr} {len cap : Nat} {d : DataW H} {ps : List MemPlace}
    (hf : DataW.trod enc Try.prog W base sp held fuel 22 (Value.slice a len cap).cells.toList = some (d, ps)) : len ≤ 9223372036854775807 ∧ Row W a len := by
  have hmax : maxLen = 9223372036854775807 := by rfl
  rcases open_ints Try.underlying22 Try.underlying5 (by kernel_rfl) hf with ⟨hcs, _⟩ | ⟨x, l, c, zs, hcs, _, hl, hm, hz, _, hcell, hwz⟩
  · simp [Value.cells] at hcs
    exact ⟨by omega, fun i hi => by omega⟩
  · simp [Value.cells] at hcs
    obtain ⟨rfl, rfl, rfl⟩ := hcs
    refine ⟨by omega, fun i hi => ?_⟩
    have hlen : len ≤ zs.length := by
      rw [hz]
      split <;> omega
    obtain ⟨b, off, rfl, hc⟩ := ints_at hcell (show 0 < zs.length by omega)
    have hci := hc i (by omega)
    have hw := hwz (zs.getD i 0) (by rw [List.getD_eq_getElem?_getD, List.getElem?_eq_getElem (by omega)]; simp)
    have hb := bounds_u8 hw
    exact ⟨b, off, zs.getD i 0, rfl, World.block_lt_of_cell? W _ hci, hci, by omega, by omega⟩
end Go.Proofs.Ytlccicbgepfbbaa
