/- A plan out of what an argument reads as. -/
import Derived.Test.YtiadfabhpagmpaaDoorPO
import Derived.ProofKit
import Derived.OpenShut
import Derived.Lib.SmallJoins
import Derived.Deep.SlicePairs
namespace Go.Proofs.YtiadfabhpagmpaaDoor
open Go.RowKit

open Go.ChangeShapes Go.WideShapes Go.ChangeAt Go.WideMaps Go.WideElems Go.Deep Go.Joins


theorem one_int {H : Type} {enc : TypeId × Value → H} {W : World} {base : Nat} {sp : Nat → Bool} {held : Bool} {fuel : Nat} {v : Value} {y : DataW H × List MemPlace}
    (h : DataW.trod enc Tryd.prog W base sp held fuel 3 [v] = some y) : ∃ x, v = .int .i64 x := by
  obtain ⟨z, e, _, _⟩ := DataW.trod_int Tryd.underlying3 h
  simp at e
  exact ⟨z, e⟩

theorem one_str {H : Type} {enc : TypeId × Value → H} {W : World} {base : Nat} {sp : Nat → Bool} {held : Bool} {fuel : Nat} {v : Value} {y : DataW H × List MemPlace}
    (h : DataW.trod enc Tryd.prog W base sp held fuel 9 [v] = some y) : ∃ s : ByteArray, v = .string s ∧ s.size ≤ 9223372036854775807 := by
  have hmax : maxLen = 9223372036854775807 := by rfl
  obtain ⟨s, e, _, hs⟩ := DataW.trod_string Tryd.underlying9 h
  simp at e
  exact ⟨s, e, by omega⟩

/-- The int, the text at a place. -/
def iAt (w : World) (b off : Nat) : Int := match w.cell? ⟨b, off, none⟩ with | some (.int _ x) => x | _ => 0
def sAt (w : World) (b off : Nat) : ByteArray := match w.cell? ⟨b, off, none⟩ with | some (.string x) => x | _ => ⟨#[]⟩

set_option maxRecDepth 100000 in
/-- What the reading of a list of nodes gives the walk. -/
theorem nl_of {H : Type} {enc : TypeId × Value → H} {W : World} {base : Nat} {sp : Nat → Bool} {held : Bool} {fuel : Nat} {v : Value} {y : DataW H × List MemPlace}
    (hf : DataW.trod enc Tryd.prog W base sp held fuel 22 [v] = some y) : ∃ a len cap, v = .slice a len cap ∧ len ≤ 9223372036854775807 ∧ ∃ ss, Nl W (.slice a len cap) len ss ∧ ∀ i, i < len → (ss i).nm.size ≤ 9223372036854775807 := by
  obtain ⟨d, ps⟩ := y
  have hc : Tryd.prog.cellsOf 71 = 3 := by kernel_rfl
  rcases open_slice Tryd.underlying22 hf with ⟨h0, _⟩ | ⟨a', len, cap, m, n, D, Pl, hcs, hb, hl, hm, hmm, _, hel⟩
  · simp at h0
    subst h0
    exact ⟨none, 0, 0, rfl, by omega, fun _ => ⟨⟨#[]⟩, 0, 0⟩, ⟨none, 0, rfl, Nat.le_refl _, fun h => absurd h (by omega)⟩, fun i hi => absurd hi (by omega)⟩
  · simp at hcs
    subst hcs
    have hlm : len ≤ m := by rw [hmm]; split <;> omega
    have each : ∀ i, i < len → ∃ x0 x1 x2, W.cell? (a'.add (i * 3)) = some (.string x0) ∧ W.cell? (a'.add (i * 3 + 1)) = some (.int .i64 x1) ∧ W.cell? (a'.add (i * 3 + 2)) = some (.int .i64 x2) ∧ x0.size ≤ 9223372036854775807 := by
      intro i hi
      obtain ⟨cs', h1, h2⟩ := hel i (by omega)
      rw [hc] at h1
      obtain ⟨_, hlen, hcell⟩ := World.cells?_some h1
      obtain ⟨xs, k, hk, hxy, _, hxl, hfd⟩ := DataW.trod_struct Tryd.underlying71 h2
      match xs, hxl, cs', hlen with
      | [y0, y1, y2], _, [v0, v1, v2], _ =>
        have g0 := hfd 0 _ rfl
        have g1 := hfd 1 _ rfl
        have g2 := hfd 2 _ rfl
        simp [cells3, cells9] at g0 g1 g2
        have e0 := hcell 0 (by omega)
        have e1 := hcell 1 (by omega)
        have e2 := hcell 2 (by omega)
        simp only [add_add] at e0 e1 e2
        obtain ⟨x0, rfl, hx0⟩ := one_str g0
        obtain ⟨x1, rfl⟩ := one_int g1
        obtain ⟨x2, rfl⟩ := one_int g2
        exact ⟨x0, x1, x2, by simpa using e0, by simpa using e1, by simpa using e2, hx0⟩
    have hmax : maxLen = 9223372036854775807 := by rfl
    obtain ⟨b, off, spot⟩ := a'
    by_cases h00 : len = 0
    · subst h00
      exact ⟨_, 0, cap, rfl, by omega, fun _ => ⟨⟨#[]⟩, 0, 0⟩, ⟨_, cap, rfl, Nat.zero_le _, fun h => absurd h (by omega)⟩, fun i hi => absurd hi (by omega)⟩
    have h0 : 0 < len := by omega
    have hspot : spot = none := by
      obtain ⟨_, _, _, hx, _⟩ := each 0 h0
      simpa [Addr.add] using World.cell?_spot hx
    subst hspot
    have each' : ∀ i, i < len → ∃ x0 x1 x2, W.cell? ⟨b, off + i * 3, none⟩ = some (.string x0) ∧ W.cell? ⟨b, off + i * 3 + 1, none⟩ = some (.int .i64 x1) ∧ W.cell? ⟨b, off + i * 3 + 2, none⟩ = some (.int .i64 x2) ∧ x0.size ≤ 9223372036854775807 := by
      intro i hi
      obtain ⟨x0, x1, x2, q0, q1, q2, q3⟩ := each i hi
      refine ⟨x0, x1, x2, ?_, ?_, ?_, q3⟩
      · by_cases h : i = 0
        · subst h; simpa [Addr.add] using q0
        · have h2 : ¬ i * 3 = 0 := by omega
          simpa [Addr.add, h2] using q0
      · simpa [Addr.add, Nat.add_assoc] using q1
      · simpa [Addr.add, Nat.add_assoc] using q2
    refine ⟨_, len, cap, rfl, by omega, fun k => ⟨sAt W b (off + k * 3), iAt W b (off + k * 3 + 1), iAt W b (off + k * 3 + 2)⟩, ⟨some ⟨b, off, none⟩, cap, rfl, hl, fun _ => ⟨b, off, rfl, ?_, fun k hk => ?_⟩⟩, fun i hi => ?_⟩
    · obtain ⟨_, _, _, _, hx, _⟩ := each' 0 h0
      exact World.block_lt_of_cell? W _ hx
    · obtain ⟨x0, x1, x2, q0, q1, q2, _⟩ := each' k hk
      rw [q0, q1, q2]
      simp [iAt, sAt, q0, q1, q2]
    · obtain ⟨x0, x1, x2, q0, q1, q2, q3⟩ := each' i hi
      simpa [sAt, q0] using q3

set_option maxRecDepth 100000 in
/-- What the reading of a list of links gives the walk. -/
theorem ll_of {H : Type} {enc : TypeId × Value → H} {W : World} {base : Nat} {sp : Nat → Bool} {held : Bool} {fuel : Nat} {v : Value} {y : DataW H × List MemPlace}
    (hf : DataW.trod enc Tryd.prog W base sp held fuel 23 [v] = some y) : ∃ a len cap, v = .slice a len cap ∧ len ≤ 9223372036854775807 ∧ ∃ ss, Ll W (.slice a len cap) len ss := by
  obtain ⟨d, ps⟩ := y
  have hc : Tryd.prog.cellsOf 76 = 2 := by kernel_rfl
  rcases open_slice Tryd.underlying23 hf with ⟨h0, _⟩ | ⟨a', len, cap, m, n, D, Pl, hcs, hb, hl, hm, hmm, _, hel⟩
  · simp at h0
    subst h0
    exact ⟨none, 0, 0, rfl, by omega, fun _ => ⟨0, 0⟩, none, 0, rfl, Nat.le_refl _, fun h => absurd h (by omega)⟩
  · simp at hcs
    subst hcs
    have hlm : len ≤ m := by rw [hmm]; split <;> omega
    have each : ∀ i, i < len → ∃ x0 x1, W.cell? (a'.add (i * 2)) = some (.int .i64 x0) ∧ W.cell? (a'.add (i * 2 + 1)) = some (.int .i64 x1) := by
      intro i hi
      obtain ⟨cs', h1, h2⟩ := hel i (by omega)
      rw [hc] at h1
      obtain ⟨_, hlen, hcell⟩ := World.cells?_some h1
      obtain ⟨xs, k, hk, hxy, _, hxl, hfd⟩ := DataW.trod_struct Tryd.underlying76 h2
      match xs, hxl, cs', hlen with
      | [y0, y1], _, [v0, v1], _ =>
        have g0 := hfd 0 _ rfl
        have g1 := hfd 1 _ rfl
        simp [cells3] at g0 g1
        have e0 := hcell 0 (by omega)
        have e1 := hcell 1 (by omega)
        simp only [add_add] at e0 e1
        obtain ⟨x0, rfl⟩ := one_int g0
        obtain ⟨x1, rfl⟩ := one_int g1
        exact ⟨x0, x1, by simpa using e0, by simpa using e1⟩
    have hmax : maxLen = 9223372036854775807 := by rfl
    obtain ⟨b, off, spot⟩ := a'
    by_cases h00 : len = 0
    · subst h00
      exact ⟨_, 0, cap, rfl, by omega, fun _ => ⟨0, 0⟩, _, cap, rfl, Nat.zero_le _, fun h => absurd h (by omega)⟩
    have h0 : 0 < len := by omega
    have hspot : spot = none := by
      obtain ⟨_, _, hx, _⟩ := each 0 h0
      simpa [Addr.add] using World.cell?_spot hx
    subst hspot
    have each' : ∀ i, i < len → ∃ x0 x1, W.cell? ⟨b, off + i * 2, none⟩ = some (.int .i64 x0) ∧ W.cell? ⟨b, off + i * 2 + 1, none⟩ = some (.int .i64 x1) := by
      intro i hi
      obtain ⟨x0, x1, q0, q1⟩ := each i hi
      refine ⟨x0, x1, ?_, ?_⟩
      · by_cases h : i = 0
        · subst h; simpa [Addr.add] using q0
        · have h2 : ¬ i * 2 = 0 := by omega
          simpa [Addr.add, h2] using q0
      · simpa [Addr.add, Nat.add_assoc] using q1
    refine ⟨_, len, cap, rfl, by omega, fun k => ⟨iAt W b (off + k * 2), iAt W b (off + k * 2 + 1)⟩, some ⟨b, off, none⟩, cap, rfl, hl, fun _ => ⟨b, off, rfl, ?_, fun k hk => ?_⟩⟩
    · obtain ⟨_, _, hx, _⟩ := each' 0 h0
      exact World.block_lt_of_cell? W _ hx
    · obtain ⟨x0, x1, q0, q1⟩ := each' k hk
      rw [q0, q1]
      simp [iAt, q0, q1]

end Go.Proofs.YtiadfabhpagmpaaDoor
