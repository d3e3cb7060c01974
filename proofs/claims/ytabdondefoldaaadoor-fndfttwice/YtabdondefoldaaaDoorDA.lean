/- FnDftBack: the draw. -/
import Derived.Test.YtabdondefoldaaaDoorD3
import Derived.Test.YtabdondefoldaaaDoorD4
namespace Go.Proofs.YtabdondefoldaaaDoor
open Go.RowKit

theorem pow32 {j : Nat} (h : j < 6) : ∃ P : Nat, (2 : Int) ^ j = P ∧ 1 ≤ P ∧ P ≤ 32 := by
  have : j = 0 ∨ j = 1 ∨ j = 2 ∨ j = 3 ∨ j = 4 ∨ j = 5 := by omega
  rcases this with rfl | rfl | rfl | rfl | rfl | rfl
  · exact ⟨1, rfl, by omega, by omega⟩
  · exact ⟨2, rfl, by omega, by omega⟩
  · exact ⟨4, rfl, by omega, by omega⟩
  · exact ⟨8, rfl, by omega, by omega⟩
  · exact ⟨16, rfl, by omega, by omega⟩
  · exact ⟨32, rfl, by omega, by omega⟩

theorem set_keep {w w1 : World} {c g : Nat} {v : Value} {a : Option Addr} {len cap : Nat} (h0 : Cu w c a len cap) (hk : Keep c w w1) (hc : Cu w1 c a len cap) (hB : w.heap.size ≤ g) (j : Nat) : Keep c w (w1.setCell ⟨g, j, none⟩ v) ∧ Cu (w1.setCell ⟨g, j, none⟩ v) c a len cap := by
  have hb : Below w.heap.size w1 (w1.setCell ⟨g, j, none⟩ v) := (Below.refl _ _).setCell hB _
  exact ⟨hk.below hb, h0.grow hc hk hb⟩

theorem ils_first (ys : Nat → Int) (x : Int) (n : Nat) : (ils ys n).set 0 (.int .i64 x) = ils (fun i => if i = 0 then x else ys i) n := by
  cases n with
  | zero => rfl
  | succ m =>
    unfold ils
    apply List.ext_getElem
    · simp
    · intro i h1 h2
      simp only [List.length_set, List.length_map, List.length_range] at h1
      rcases i with _ | i
      · simp
      · simp

end Go.Proofs.YtabdondefoldaaaDoor
