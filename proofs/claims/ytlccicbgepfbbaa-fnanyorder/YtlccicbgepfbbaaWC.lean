/- Wires out of what an argument reads as. -/
import Derived.Test.YtlccicbgepfbbaaWB
import Derived.Test.YtlccicbgepfbbaaO1
import Derived.ProofKit
import Derived.OpenShut
import Derived.Lib.SmallJoins
import Derived.Deep.SlicePairs
namespace Go.Proofs.Ytlccicbgepfbbaa
open Go.ChangeShapes Go.WideShapes Go.ChangeAt Go.RowKit Go.Joins Go.Deep

theorem int_one {H : Type} {enc : TypeId × Value → H} {W : World} {base : Nat} {sp : Nat → Bool} {held : Bool} {fuel : Nat} {v : Value} {y : DataW H × List MemPlace}
    (h : DataW.trod enc Try.prog W base sp held fuel 3 [v] = some y) : ∃ x, v = .int .i64 x := by
  cases fuel with
  | zero => simp [DataW.trod] at h
  | succ n =>
    simp only [DataW.trod, Try.underlying3] at h
    split at h
    all_goals first
      | (rename_i e1 e2; cases e1; simp at e2; subst e2; exact ⟨_, rfl⟩)
      | simp_all

/-- The int at a place. -/
def iAt (w : World) (b off : Nat) : Int := match w.cell? ⟨b, off, none⟩ with | some (.int _ x) => x | _ => 0

set_option maxRecDepth 100000 in
/-- What the reading of a list of wires gives the walk. -/
theorem il5_of {H : Type} {enc : TypeId × Value → H} {W : World} {base : Nat} {sp : Nat → Bool} {held : Bool} {fuel : Nat} {a : Option Addr} {len cap : Nat} {d : DataW H} {ps : List MemPlace}
    (hf : DataW.trod enc Try.prog W base sp held fuel 47 (Value.slice a len cap).cells.toList = some (d, ps)) : len ≤ 9223372036854775807 ∧ ∃ ss, Il5 W (.slice a len cap) len ss := by
  have hc : Try.prog.cellsOf 85 = 5 := by kernel_rfl
  have hc1 : Try.prog.cellsOf 3 = 1 := by kernel_rfl
  rcases open_slice Try.underlying47 hf with ⟨h0, _⟩ | ⟨a', len', cap', m, n, D, Pl, hcs, hb, hl, hm, hmm, _, hel⟩
  · simp [Value.cells] at h0
    obtain ⟨rfl, rfl, rfl⟩ := h0
    exact ⟨by omega, fun _ => ⟨0, 0, 0, 0, 0⟩, none, 0, rfl, Nat.le_refl _, fun h => absurd h (by omega)⟩
  · simp [Value.cells] at hcs
    obtain ⟨rfl, rfl, rfl⟩ := hcs
    have hlm : len ≤ m := by rw [hmm]; split <;> omega
    have each : ∀ i, i < len → ∃ x0 x1 x2 x3 x4, W.cell? (a'.add (i * 5)) = some (.int .i64 x0) ∧ W.cell? (a'.add (i * 5 + 1)) = some (.int .i64 x1) ∧ W.cell? (a'.add (i * 5 + 2)) = some (.int .i64 x2) ∧ W.cell? (a'.add (i * 5 + 3)) = some (.int .i64 x3) ∧ W.cell? (a'.add (i * 5 + 4)) = some (.int .i64 x4) := by
      intro i hi
      obtain ⟨cs', h1, h2⟩ := hel i (by omega)
      rw [hc] at h1
      obtain ⟨_, hlen, hcell⟩ := World.cells?_some h1
      obtain ⟨xs, k, hk, hxy, _, hxl, hfd⟩ := DataW.trod_struct Try.underlying85 h2
      match xs, hxl, cs', hlen with
      | [y0, y1, y2, y3, y4], _, [v0, v1, v2, v3, v4], _ =>
        have g0 := hfd 0 _ rfl
        have g1 := hfd 1 _ rfl
        have g2 := hfd 2 _ rfl
        have g3 := hfd 3 _ rfl
        have g4 := hfd 4 _ rfl
        simp [hc1] at g0 g1 g2 g3 g4
        have e0 := hcell 0 (by omega)
        have e1 := hcell 1 (by omega)
        have e2 := hcell 2 (by omega)
        have e3 := hcell 3 (by omega)
        have e4 := hcell 4 (by omega)
        simp only [add_add] at e0 e1 e2 e3 e4
        obtain ⟨x0, rfl⟩ := int_one g0
        obtain ⟨x1, rfl⟩ := int_one g1
        obtain ⟨x2, rfl⟩ := int_one g2
        obtain ⟨x3, rfl⟩ := int_one g3
        obtain ⟨x4, rfl⟩ := int_one g4
        exact ⟨x0, x1, x2, x3, x4, by simpa using e0, by simpa using e1, by simpa using e2, by simpa using e3, by simpa using e4⟩
    have hmax : maxLen = 9223372036854775807 := by rfl
    obtain ⟨b, off, spot⟩ := a'
    refine ⟨by omega, fun k => ⟨iAt W b (off + k * 5), iAt W b (off + k * 5 + 1), iAt W b (off + k * 5 + 2), iAt W b (off + k * 5 + 3), iAt W b (off + k * 5 + 4)⟩, some ⟨b, off, spot⟩, cap, rfl, hl, fun h0 => ?_⟩
    have hspot : spot = none := by
      obtain ⟨_, _, _, _, _, hx, _⟩ := each 0 h0
      simpa [Addr.add] using World.cell?_spot hx
    subst hspot
    have each' : ∀ i, i < len → ∃ x0 x1 x2 x3 x4, W.cell? ⟨b, off + i * 5, none⟩ = some (.int .i64 x0) ∧ W.cell? ⟨b, off + i * 5 + 1, none⟩ = some (.int .i64 x1) ∧ W.cell? ⟨b, off + i * 5 + 2, none⟩ = some (.int .i64 x2) ∧ W.cell? ⟨b, off + i * 5 + 3, none⟩ = some (.int .i64 x3) ∧ W.cell? ⟨b, off + i * 5 + 4, none⟩ = some (.int .i64 x4) := by
      intro i hi
      obtain ⟨x0, x1, x2, x3, x4, q0, q1, q2, q3, q4⟩ := each i hi
      refine ⟨x0, x1, x2, x3, x4, ?_, ?_, ?_, ?_, ?_⟩
      · by_cases h : i = 0
        · subst h; simpa [Addr.add] using q0
        · have h2 : ¬ i * 5 = 0 := by omega
          simpa [Addr.add, h2] using q0
      · simpa [Addr.add, Nat.add_assoc] using q1
      · simpa [Addr.add, Nat.add_assoc] using q2
      · simpa [Addr.add, Nat.add_assoc] using q3
      · simpa [Addr.add, Nat.add_assoc] using q4
    refine ⟨b, off, rfl, ?_, fun k hk => ?_⟩
    · obtain ⟨_, _, _, _, _, hx, _⟩ := each' 0 h0
      exact World.block_lt_of_cell? W _ hx
    · obtain ⟨x0, x1, x2, x3, x4, q0, q1, q2, q3, q4⟩ := each' k hk
      rw [q0, q1, q2, q3, q4]
      simp [iAt, q0, q1, q2, q3, q4]
end Go.Proofs.Ytlccicbgepfbbaa
