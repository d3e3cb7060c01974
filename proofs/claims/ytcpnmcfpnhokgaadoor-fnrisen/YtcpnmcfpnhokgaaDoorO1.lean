/- What the reading of a list of bytes gives the walk. -/
import Derived.Test.YtcpnmcfpnhokgaaDoorL2
import Derived.Test.YtcpnmcfpnhokgaaDoorD1
namespace Go.Proofs.YtcpnmcfpnhokgaaDoor
open Go.ChangeShapes Go.WideShapes Go.ChangeAt Go.WideMaps Go.WideElems Go.RowKit

theorem cell_lt {w : World} {b o : Nat} {v : Value} (h : w.cell? ⟨b, o, none⟩ = some v) : b < w.heap.size := by
  by_cases h1 : b < w.heap.size
  · exact h1
  · exfalso
    have e : w.heap[b]? = none := by simp; omega
    simp [World.cell?, e] at h

/-- What the reading of a list of bytes gives the walk. -/
theorem row_of {H : Type} {enc : TypeId × Value → H} {W : World} {base : Nat} {sp : Nat → Bool} {held : Bool} {fuel : Nat} {a : Option Addr} {len cap : Nat} {d : DataW H} {ps : List MemPlace}
    (hf : DataW.trod enc Tryd.prog W base sp held fuel 22 (Value.slice a len cap).cells.toList = some (d, ps)) : Row W a len := by
  intro i hi
  rcases open_ints Tryd.underlying22 Tryd.underlying5 (by kernel_rfl) hf with ⟨hcs, _⟩ | ⟨x, l, c, zs, hcs, _, hl, hm, hz, _, hcell, hwz⟩
  · simp [Value.cells] at hcs
    omega
  · simp [Value.cells] at hcs
    obtain ⟨rfl, rfl, rfl⟩ := hcs
    have hlen : len ≤ zs.length := by
      rw [hz]
      split <;> omega
    obtain ⟨b, off, rfl, hc⟩ := ints_at hcell (show 0 < zs.length by omega)
    have hci := hc i (by omega)
    have hw := hwz (zs.getD i 0) (by rw [List.getD_eq_getElem?_getD, List.getElem?_eq_getElem (by omega)]; simp)
    have hb := bounds_u8 hw
    exact ⟨b, off, zs.getD i 0, rfl, cell_lt hci, hci, by omega, by omega⟩
end Go.Proofs.YtcpnmcfpnhokgaaDoor
