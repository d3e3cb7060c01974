/- A list of floats out of what an argument reads as. -/
import Derived.Test.YtogamhaafcoemaaF3
import Derived.ProofKit
import Derived.OpenShut
namespace Go.Proofs.Ytogamhaafcoemaa
open Go.ChangeShapes Go.WideShapes Go.ChangeAt Go.RowKit

theorem own : ownKnob Try.prog.godebug = none := by kernel_rfl
theorem laidOut : laidOutB Try.prog = true := by kernel_rfl

theorem cell_lt {w : World} {b o : Nat} {v : Value} (h : w.cell? ⟨b, o, none⟩ = some v) : b < w.heap.size := by
  by_cases h1 : b < w.heap.size
  · exact h1
  · exfalso
    have e : w.heap[b]? = none := by simp; omega
    simp [World.cell?, e] at h

theorem trod_float {H : Type} {enc : TypeId × Value → H} {W : World} {base : Nat} {sp : Nat → Bool} {held : Bool} {fuel : Nat} {cs : List Value} {y : DataW H × List MemPlace}
    (h : DataW.trod enc Try.prog W base sp held fuel 23 cs = some y) : ∃ b, cs = [.float .f64 b] ∧ b < 18446744073709551616 := by
  cases fuel with
  | zero => simp [DataW.trod] at h
  | succ n =>
    simp only [DataW.trod, Try.underlying23] at h
    split at h
    all_goals first
      | (simp_all; done)
      | (simp_all
         rename_i k k' b he
         subst he
         simpa [Lit.wf] using h.1.2)

/-- The float at a place. -/
def fAt (w : World) (b off k : Nat) : Nat := match w.cell? ⟨b, off + k, none⟩ with | some (.float _ x) => x | _ => 0

/-- What the reading of a list of floats gives the walk. -/
theorem fl_of {H : Type} {enc : TypeId × Value → H} {W : World} {base : Nat} {sp : Nat → Bool} {held : Bool} {fuel : Nat} {a : Option Addr} {len cap : Nat} {d : DataW H} {ps : List MemPlace}
    (hf : DataW.trod enc Try.prog W base sp held fuel 22 (Value.slice a len cap).cells.toList = some (d, ps)) : len ≤ 9223372036854775807 ∧ ∃ xs, Fl W (.slice a len cap) len xs ∧ ∀ k, k < len → xs k < 18446744073709551616 := by
  have hc : Try.prog.cellsOf 23 = 1 := by kernel_rfl
  rcases DataW.trod_slice Try.underlying22 hf with ⟨h0, _⟩ | ⟨a', len', cap', elems, rest, n, _, hcs, _, hb, hl, hm, hlen, hel, _, _⟩
  · simp [Value.cells] at h0
    obtain ⟨rfl, rfl, rfl⟩ := h0
    exact ⟨by omega, fun _ => 0, ⟨none, 0, rfl, Nat.le_refl _, fun h => absurd h (by omega)⟩, fun k hk => by omega⟩
  · simp [Value.cells] at hcs
    obtain ⟨rfl, rfl, rfl⟩ := hcs
    have each : ∀ i, i < len → ∃ x, W.cell? (a'.add i) = some (.float .f64 x) ∧ x < 18446744073709551616 := by
      intro i hi
      have h1 := hel i hi
      rw [hc, Nat.mul_one, List.getElem?_eq_getElem (by omega), Option.bind_eq_some_iff] at h1
      obtain ⟨cs', hcs, hy⟩ := h1
      obtain ⟨x, rfl, hw⟩ := trod_float hy
      exact ⟨x, cell_of_cells?_one hcs, hw⟩
    have hmax : maxLen = 9223372036854775807 := by rfl
    obtain ⟨b, off, spot⟩ := a'
    refine ⟨by omega, fun k => fAt W b off k, ⟨some ⟨b, off, spot⟩, cap, rfl, hl, fun h0 => ?_⟩, fun k hk => ?_⟩
    rotate_left
    · obtain ⟨x, hx, hw⟩ := each k hk
      obtain ⟨y, hy, _⟩ := each 0 (by omega)
      have hspot : spot = none := by simpa [Addr.add] using World.cell?_spot hy
      subst hspot
      have e : W.cell? ⟨b, off + k, none⟩ = some (.float .f64 x) := by
        by_cases hk0 : k = 0
        · subst hk0; simpa [Addr.add] using hx
        · simpa [Addr.add, hk0] using hx
      simp only [fAt, e]
      exact hw
    have hspot : spot = none := by
      obtain ⟨x, hx, _⟩ := each 0 h0
      simpa [Addr.add] using World.cell?_spot hx
    subst hspot
    refine ⟨b, off, rfl, ?_, fun k hk => ?_⟩
    · obtain ⟨x, hx, _⟩ := each 0 h0
      exact cell_lt (o := off + 0) (by simpa [Addr.add] using hx)
    · obtain ⟨x, hx, _⟩ := each k hk
      have e : W.cell? ⟨b, off + k, none⟩ = some (.float .f64 x) := by
        by_cases hk0 : k = 0
        · subst hk0; simpa [Addr.add] using hx
        · simpa [Addr.add, hk0] using hx
      rw [e]
      simp [fAt, e]
end Go.Proofs.Ytogamhaafcoemaa
