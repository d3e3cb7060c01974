/- A list of pairs out of what an argument reads as. -/
import Derived.Test.YtlcnciibjhcbiaaDoorL1
import Derived.ProofKit
import Derived.OpenShut
import Derived.Lib.SmallJoins
import Derived.Deep.SlicePairs
namespace Go.Proofs.YtlcnciibjhcbiaaDoor
open Go.ChangeShapes Go.WideShapes Go.ChangeAt Go.RowKit Go.Joins

theorem own : ownKnob Tryd.prog.godebug = none := by kernel_rfl
theorem laidOut : laidOutB Tryd.prog = true := by kernel_rfl

theorem pair_float {H : Type} {enc : TypeId × Value → H} {W : World} {base : Nat} {sp : Nat → Bool} {held : Bool} {fuel : Nat} {v : Value} {y : DataW H × List MemPlace}
    (h : DataW.trod enc Tryd.prog W base sp held fuel 38 [v] = some y) : ∃ b, v = .float .f64 b ∧ y = (.lit (.float .f64 b), []) ∧ (Lit.float .f64 b).wf = true := by
  cases fuel with
  | zero => simp [DataW.trod] at h
  | succ n =>
    simp only [DataW.trod, Tryd.underlying38] at h
    split at h
    all_goals first
      | (rename_i e1 e2; cases e1; simp at e2; subst e2; simp at h; exact ⟨_, rfl, h.2.symm, h.1⟩)
      | simp_all

theorem cell_lt {w : World} {b o : Nat} {v : Value} (h : w.cell? ⟨b, o, none⟩ = some v) : b < w.heap.size := World.block_lt_of_cell? w _ h

/-- The float at a place. -/
def fAt (w : World) (b off : Nat) : Nat := match w.cell? ⟨b, off, none⟩ with | some (.float _ x) => x | _ => 0

/-- What the reading of a list of pairs gives the walk. -/
theorem fp_of {H : Type} {enc : TypeId × Value → H} {W : World} {base : Nat} {sp : Nat → Bool} {held : Bool} {fuel : Nat} {a : Option Addr} {len cap : Nat} {d : DataW H} {ps : List MemPlace}
    (hf : DataW.trod enc Tryd.prog W base sp held fuel 22 (Value.slice a len cap).cells.toList = some (d, ps)) : len ≤ 9223372036854775807 ∧ ∃ xs ys, Fp W (.slice a len cap) len xs ys := by
  have hc : Tryd.prog.cellsOf 46 = 2 := by kernel_rfl
  have hc1 : Tryd.prog.cellsOf 38 = 1 := by kernel_rfl
  rcases Deep.open_slice_pairs Tryd.underlying22 Tryd.underlying46 hc rfl rfl hc1 hc1 hf with ⟨h0, _⟩ | ⟨a', len', cap', m, n, V0, V1, D0, D1, P0, P1, hcs, hb, hl, hm, hmm, _, hel⟩
  · simp [Value.cells] at h0
    obtain ⟨rfl, rfl, rfl⟩ := h0
    exact ⟨by omega, fun _ => 0, fun _ => 0, none, 0, rfl, Nat.le_refl _, fun h => absurd h (by omega)⟩
  · simp [Value.cells] at hcs
    obtain ⟨rfl, rfl, rfl⟩ := hcs
    have hlm : len ≤ m := by rw [hmm]; split <;> omega
    have each : ∀ i, i < len → ∃ x y, W.cell? (a'.add (i * 2)) = some (.float .f64 x) ∧ W.cell? (a'.add (i * 2 + 1)) = some (.float .f64 y) := by
      intro i hi
      obtain ⟨h1, h2, h3, h4⟩ := hel i (by omega)
      obtain ⟨x, hx, _⟩ := pair_float h3
      obtain ⟨y, hy, _⟩ := pair_float h4
      exact ⟨x, y, by rw [h1, hx], by rw [h2, hy]⟩
    have hmax : maxLen = 9223372036854775807 := by rfl
    obtain ⟨b, off, spot⟩ := a'
    refine ⟨by omega, fun k => fAt W b (off + k * 2), fun k => fAt W b (off + k * 2 + 1), some ⟨b, off, spot⟩, cap, rfl, hl, fun h0 => ?_⟩
    have hspot : spot = none := by
      obtain ⟨x, y, hx, _⟩ := each 0 h0
      simpa [Addr.add] using World.cell?_spot hx
    subst hspot
    have each' : ∀ i, i < len → ∃ x y, W.cell? ⟨b, off + i * 2, none⟩ = some (.float .f64 x) ∧ W.cell? ⟨b, off + i * 2 + 1, none⟩ = some (.float .f64 y) := by
      intro i hi
      obtain ⟨x, y, hx, hy⟩ := each i hi
      refine ⟨x, y, ?_, ?_⟩
      · by_cases h : i = 0
        · subst h; simpa [Addr.add] using hx
        · have h2 : ¬ i * 2 = 0 := by omega
          simpa [Addr.add, h2] using hx
      · simpa [Addr.add, Nat.add_assoc] using hy
    refine ⟨b, off, rfl, ?_, fun k hk => ?_⟩
    · obtain ⟨x, y, hx, _⟩ := each' 0 h0
      exact cell_lt hx
    · obtain ⟨x, y, hx, hy⟩ := each' k hk
      rw [hx, hy]
      simp [fAt, hx, hy]
end Go.Proofs.YtlcnciibjhcbiaaDoor
