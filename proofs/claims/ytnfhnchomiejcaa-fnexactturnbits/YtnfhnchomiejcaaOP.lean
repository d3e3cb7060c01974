/- Rows of ints out of what an argument reads as. -/
import Derived.Test.YtnfhnchomiejcaaO1
import Derived.Test.YtnfhnchomiejcaaRS
import Derived.Deep.Slices
namespace Go.Proofs.Ytnfhnchomiejcaa
open Go.ChangeShapes Go.WideShapes Go.ChangeAt Go.WideMaps Go.WideElems Go.RowKit

/-- What the reading of rows of ints gives the walk. -/
theorem ipp_of {H : Type} {enc : TypeId × Value → H} {W : World} {base : Nat} {sp : Nat → Bool} {held : Bool} {fuel : Nat} {a : Option Addr} {len cap : Nat} {d : DataW H} {ps : List MemPlace}
    (hf : DataW.trod enc Try.prog W base sp held fuel 24 (Value.slice a len cap).cells.toList = some (d, ps)) : len ≤ 9223372036854775807 ∧ ∃ ms X, (∀ k, k < len → ms k ≤ 9223372036854775807) ∧ Ipp W (.slice a len cap) len ms X := by
  have hmax : maxLen = 9223372036854775807 := by rfl
  have hc : Try.prog.cellsOf 29 = 1 := by kernel_rfl
  rcases Deep.open_slice1 Try.underlying24 hc hf with ⟨h0, _⟩ | ⟨a', len', cap', m, n, V, D, Pl, hcs, hb, hl, hm, hmm, _, hel⟩
  · simp [Value.cells] at h0
    obtain ⟨rfl, rfl, rfl⟩ := h0
    exact ⟨by omega, fun _ => 0, fun _ _ => 0, fun k hk => by omega, none, 0, rfl, Nat.le_refl _, fun h => absurd h (by omega)⟩
  · simp [Value.cells] at hcs
    obtain ⟨rfl, rfl, rfl⟩ := hcs
    have hlm : len ≤ m := by rw [hmm]; split <;> omega
    have each : ∀ i, i < len → ∃ q : Nat × (Nat → Int), q.1 ≤ 9223372036854775807 ∧ W.cell? (a'.add i) = some (V i) ∧ Il W (V i) q.1 q.2 := by
      intro i hi
      obtain ⟨h1, h2⟩ := hel i (by omega)
      rcases DataW.trod_slice Try.underlying29 h2 with ⟨h3, _⟩ | ⟨a2, l2, c2, _, _, _, _, h3, _⟩
      · have e : V i = .slice none 0 0 := by simpa using h3
        rw [e] at h2
        obtain ⟨g1, xs, g2⟩ := il_of (a := none) (len := 0) (cap := 0) h2
        exact ⟨(0, xs), g1, h1, by rw [e]; exact g2⟩
      · have e : V i = .slice (some a2) l2 c2 := by simpa using h3
        rw [e] at h2
        obtain ⟨g1, xs, g2⟩ := il_of (a := some a2) (len := l2) (cap := c2) h2
        exact ⟨(l2, xs), g1, h1, by rw [e]; exact g2⟩
    obtain ⟨q, hq⟩ := Deep.choose_lt each
    obtain ⟨b, off, spot⟩ := a'
    refine ⟨by omega, fun k => (q k).1, fun k => (q k).2, fun k hk => (hq k hk).1, some ⟨b, off, spot⟩, cap, rfl, hl, fun h0 => ?_⟩
    have hspot : spot = none := by
      have hx := (hq 0 h0).2.1
      simpa [Addr.add] using World.cell?_spot hx
    subst hspot
    have each' : ∀ i, i < len → W.cell? ⟨b, off + i, none⟩ = some (V i) := by
      intro i hi
      have hx := (hq i hi).2.1
      by_cases h : i = 0
      · subst h; simpa [Addr.add] using hx
      · simpa [Addr.add, h] using hx
    exact ⟨b, off, V, rfl, World.block_lt_of_cell? _ _ (each' 0 h0), fun k hk => ⟨each' k hk, (hq k hk).2.2⟩⟩



end Go.Proofs.Ytnfhnchomiejcaa
