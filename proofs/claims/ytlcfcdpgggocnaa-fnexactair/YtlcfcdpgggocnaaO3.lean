/- A list of points out of what an argument reads as. -/
import Derived.Test.YtlcfcdpgggocnaaPA
import Derived.Test.YtlcfcdpgggocnaaO1
import Derived.ProofKit
import Derived.OpenShut
import Derived.Lib.SmallJoins
import Derived.Deep.SlicePairs
namespace Go.Proofs.Ytlcfcdpgggocnaa
open Go.ChangeShapes Go.WideShapes Go.ChangeAt Go.RowKit Go.Joins Go.Deep

theorem int_one {H : Type} {enc : TypeId × Value → H} {W : World} {base : Nat} {sp : Nat → Bool} {held : Bool} {fuel : Nat} {v : Value} {y : DataW H × List MemPlace}
    (h : DataW.trod enc Try.prog W base sp held fuel 3 [v] = some y) : ∃ x, v = .int .i64 x := by
  cases fuel with
  | zero => simp [DataW.trod] at h
  | succ n =>
    simp only [DataW.trod, Try.underlying3] at h
    split at h
    all_goals first
      | (rename_i e1 e2; cases e1; simp at e2; subst e2; exact ⟨_, rfl⟩)
      | simp_all

/-- The int at a place. -/
def iAt (w : World) (b off : Nat) : Int := match w.cell? ⟨b, off, none⟩ with | some (.int _ x) => x | _ => 0

/-- What the reading of a list of points gives the walk. -/
theorem il2_of {H : Type} {enc : TypeId × Value → H} {W : World} {base : Nat} {sp : Nat → Bool} {held : Bool} {fuel : Nat} {a : Option Addr} {len cap : Nat} {d : DataW H} {ps : List MemPlace}
    (hf : DataW.trod enc Try.prog W base sp held fuel 22 (Value.slice a len cap).cells.toList = some (d, ps)) : len ≤ 9223372036854775807 ∧ ∃ z, Il2 W (.slice a len cap) len z := by
  have hc : Try.prog.cellsOf 37 = 2 := by kernel_rfl
  have hc1 : Try.prog.cellsOf 3 = 1 := by kernel_rfl
  rcases open_slice Try.underlying22 hf with ⟨h0, _⟩ | ⟨a', len', cap', m, n, D, Pl, hcs, hb, hl, hm, hmm, _, hel⟩
  · simp [Value.cells] at h0
    obtain ⟨rfl, rfl, rfl⟩ := h0
    exact ⟨by omega, fun _ => 0, none, 0, rfl, Nat.le_refl _, fun h => absurd h (by omega)⟩
  · simp [Value.cells] at hcs
    obtain ⟨rfl, rfl, rfl⟩ := hcs
    have hlm : len ≤ m := by rw [hmm]; split <;> omega
    have each : ∀ i, i < len → ∃ x0 x1, W.cell? (a'.add (i * 2)) = some (.int .i64 x0) ∧ W.cell? (a'.add (i * 2 + 1)) = some (.int .i64 x1) := by
      intro i hi
      obtain ⟨cs', h1, h2⟩ := hel i (by omega)
      rw [hc] at h1
      obtain ⟨_, hlen, hcell⟩ := World.cells?_some h1
      obtain ⟨xs, k, hk, hxy, _, hxl, hfd⟩ := DataW.trod_struct Try.underlying37 h2
      match xs, hxl, cs', hlen with
      | [y0, y1], _, [v0, v1], _ =>
        have g0 := hfd 0 _ rfl
        have g1 := hfd 1 _ rfl
        simp [hc1] at g0 g1
        have e0 := hcell 0 (by omega)
        have e1 := hcell 1 (by omega)
        simp only [add_add] at e0 e1
        obtain ⟨x0, rfl⟩ := int_one g0
        obtain ⟨x1, rfl⟩ := int_one g1
        exact ⟨x0, x1, by simpa using e0, by simpa using e1⟩
    have hmax : maxLen = 9223372036854775807 := by rfl
    obtain ⟨b, off, spot⟩ := a'
    refine ⟨by omega, fun k => iAt W b (off + k), some ⟨b, off, spot⟩, cap, rfl, hl, fun h0 => ?_⟩
    have hspot : spot = none := by
      obtain ⟨_, _, hx, _⟩ := each 0 h0
      simpa [Addr.add] using World.cell?_spot hx
    subst hspot
    have each' : ∀ i, i < len → ∃ x0 x1, W.cell? ⟨b, off + i * 2, none⟩ = some (.int .i64 x0) ∧ W.cell? ⟨b, off + i * 2 + 1, none⟩ = some (.int .i64 x1) := by
      intro i hi
      obtain ⟨x0, x1, q0, q1⟩ := each i hi
      refine ⟨x0, x1, ?_, ?_⟩
      · by_cases h : i = 0
        · subst h; simpa [Addr.add] using q0
        · have h2 : ¬ i * 2 = 0 := by omega
          simpa [Addr.add, h2] using q0
      · simpa [Addr.add, Nat.add_assoc] using q1
    refine ⟨b, off, rfl, ?_, fun k hk => ?_⟩
    · obtain ⟨_, _, hx, _⟩ := each' 0 h0
      exact World.block_lt_of_cell? W _ hx
    · obtain ⟨x0, x1, q0, q1⟩ := each' k hk
      show W.cell? ⟨b, off + k * 2, none⟩ = some (.int .i64 (iAt W b (off + k * 2))) ∧ W.cell? ⟨b, off + k * 2 + 1, none⟩ = some (.int .i64 (iAt W b (off + (k * 2 + 1))))
      rw [← Nat.add_assoc]
      rw [q0, q1]
      simp [iAt, q0, q1]
end Go.Proofs.Ytlcfcdpgggocnaa
