/- Lists of pairs: what a slice holds, a copy of it, and that two are the same. -/
import Derived.Test.YtbogkkkfbimacaaP3
import Derived.Laws.OwnMore
import Derived.Deep.Cut
namespace Go.Proofs.Ytbogkkkfbimacaa
open Go.RowKit

/-- The slice holds the n pairs (xs, ys). -/
def Fp (w : World) (v : Value) (n : Nat) (xs ys : Nat → Nat) : Prop := ∃ ao cap, v = .slice ao n cap ∧ n ≤ cap ∧ (0 < n → ∃ b off, ao = some ⟨b, off, none⟩ ∧ b < w.heap.size ∧ ∀ k, k < n → w.cell? ⟨b, off + k * 2, none⟩ = some (.float .f64 (xs k)) ∧ w.cell? ⟨b, off + k * 2 + 1, none⟩ = some (.float .f64 (ys k)))

theorem Fp.below {w w' : World} {v : Value} {n : Nat} {xs ys : Nat → Nat} (h : Fp w v n xs ys) (hb : Below w.heap.size w w') : Fp w' v n xs ys := by
  obtain ⟨ao, cap, rfl, hcap, hc⟩ := h
  refine ⟨ao, cap, rfl, hcap, fun h0 => ?_⟩
  obtain ⟨b, off, rfl, hlt, hcell⟩ := hc h0
  exact ⟨b, off, rfl, Nat.lt_of_lt_of_le hlt hb.size, fun k hk => ⟨(hb.cell (p := ⟨b, off + k * 2, none⟩) hlt).trans (hcell k hk).1, (hb.cell (p := ⟨b, off + k * 2 + 1, none⟩) hlt).trans (hcell k hk).2⟩⟩

/-- A row of cells that the call made, by a function. -/
def Ow (W : World) (B g n cap : Nat) (f : Nat → Value) : Prop := W.ownsRow B 26 2 (.slice (some ⟨g, 0, none⟩) n cap) n ((List.range (n * 2)).map f)

theorem list_fun (L : List Value) : L = (List.range L.length).map (fun i => L.getD i (.bool false)) := by
  apply List.ext_getElem
  · simp
  · intro i h1 h2
    simp [h1]

theorem set_fun (m j : Nat) (f : Nat → Value) (u : Value) : ((List.range m).map f).set j u = (List.range m).map (fun i => if i = j then u else f i) := by
  apply List.ext_getElem
  · simp
  · intro i h1 h2
    simp only [List.getElem_set, List.getElem_map, List.getElem_range]
    by_cases h : j = i
    · subst h; simp
    · simp [h, Ne.symm h]

theorem Ow.cell {W : World} {B g n cap : Nat} {f : Nat → Value} (h : Ow W B g n cap f) {j : Nat} (hj : j < n * 2) : W.cell? ⟨g, j, none⟩ = some (f j) := by
  rw [World.ownsRow.cellAt h j hj]
  simp [hj]

theorem Ow.put {W : World} {B g n cap : Nat} {f : Nat → Value} (h : Ow W B g n cap f) (j : Nat) (u : Value) : Ow (W.setCell ⟨g, j, none⟩ u) B g n cap (fun i => if i = j then u else f i) := by
  have := (World.ownsRow.stored h j u).1
  rw [set_fun] at this
  exact this

theorem Ow.below {W W' : World} {B g n cap : Nat} {f : Nat → Value} (h : Ow W B g n cap f) (hb : Below W.heap.size W W') : Ow W' B g n cap f := by
  refine ⟨h.1, ?_⟩
  rcases h.2 with ⟨h', _⟩ | ⟨g', cap', cur, h', hb', hg, rest⟩
  · simp at h'
  · exact .inr ⟨g', cap', cur, h', hb', (hb.block g' (Array.getElem?_eq_some_iff.1 hg).1).trans hg, rest⟩

theorem Try.info26 : (Try.prog.info? 26).map (fun i => (i.zero, i.size, i.bytes)) = some (some (.agg #[.float .f64 0, .float .f64 0]), 2, 16) := by kernel_rfl

theorem info_parts {o : Option TypeInfo} {z : Value} {s b : Nat} (h : o.map (fun i => (i.zero, i.size, i.bytes)) = some (some z, s, b)) : ∃ i, o = some i ∧ i.zero = some z ∧ i.size = s ∧ i.bytes = b := by
  cases o with
  | none => cases h
  | some i =>
    simp only [Option.map_some, Option.some.injEq, Prod.mk.injEq] at h
    exact ⟨i, rfl, h.1, h.2.1, h.2.2⟩

end Go.Proofs.Ytbogkkkfbimacaa
