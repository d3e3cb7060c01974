/- Rows of ints that a call owns: made longer, marked, held. -/
import Derived.Test.YtiadfabhpagmpaaDoorB1
import Derived.Laws.AppendOwn
namespace Go.Proofs.YtiadfabhpagmpaaDoor
open Go.RowKit

theorem own_below {w w' : World} {B s n : Nat} {e : TypeId} {v : Value} {xs : List Value} (h : w.ownsRow B e s v n xs) (hb : Below w.heap.size w w') : w'.ownsRow B e s v n xs := by
  refine ⟨h.1, ?_⟩
  rcases h.2 with h' | ⟨g', cap', cur, h', hb', hg, rest⟩
  · exact .inl h'
  · exact .inr ⟨g', cap', cur, h', hb', (hb.block g' (Array.getElem?_eq_some_iff.1 hg).1).trans hg, rest⟩

theorem own_base {w : World} {B B' s n : Nat} {e : TypeId} {v : Value} {xs : List Value} (h : w.ownsRow B e s v n xs) (hB : B' ≤ B) : w.ownsRow B' e s v n xs := by
  refine ⟨h.1, ?_⟩
  rcases h.2 with h' | ⟨g', cap', cur, h', hb', hg, rest⟩
  · exact .inl h'
  · exact .inr ⟨g', cap', cur, h', Nat.le_trans hB hb', hg, rest⟩

theorem one_new (w : World) (v : Value) (t : TypeId) : ∀ j u, [v][j]? = some u → (w.alloc (.cells #[v] t)).cell? ((⟨w.heap.size, 0, none⟩ : Addr).add j) = some u := by
  intro j u h
  match j, h with
  | 0, h => simp at h; subst h; simp [Addr.add]
  | n + 1, h => simp at h

theorem own_empty (w : World) (t : TypeId) (s : Nat) : (w.alloc (.cells #[] t)).ownsRow w.heap.size t s (.slice (some ⟨w.heap.size, 0, none⟩) 0 0) 0 [] :=
  ⟨by simp, .inr ⟨w.heap.size, 0, #[], rfl, Nat.le_refl _, heap_alloc_new w _, Nat.le_refl _, by decide, by simp, by simp⟩⟩

theorem grown_below {w W w3 : World} {B s n : Nat} {e : TypeId} {v : Value} {xs : List Value} (h : Below B w W) (hB : B ≤ w.heap.size) (ho : W.ownsRow B e s v n xs) (hg : W.grownBy w3 v.ownBlock) : Below B w w3 :=
  h.grown hg (Nat.le_trans hB h.size) (fun k hk => (World.ownsRow.lt ho k hk).1)

theorem ils_put (f : Nat → Int) (n j : Nat) (y : Int) : (ils f n).set j (.int .i64 y) = ils (fun i => if i = j then y else f i) n := by
  apply List.ext_getElem
  · simp [ils]
  · intro i h1 h2
    simp only [ils, List.getElem_set, List.getElem_map, List.getElem_range]
    by_cases h : j = i
    · subst h; simp
    · simp [h, Ne.symm h]

theorem ils_congr {f g : Nat → Int} {n : Nat} (h : ∀ k, k < n → f k = g k) : ils f n = ils g n := by
  unfold ils
  apply List.map_congr_left
  intro i hi
  rw [h i (List.mem_range.1 hi)]

/-- Nothing but block g has turned. -/
structure Only (g : Nat) (w w' : World) : Prop where
  os : w'.os = w.os
  tape : w'.tape = w.tape
  output : w'.output = w.output
  size : w.heap.size ≤ w'.heap.size
  block : ∀ k, k ≠ g → w'.heap[k]? = w.heap[k]?

theorem Only.refl (g : Nat) (w : World) : Only g w w := ⟨rfl, rfl, rfl, Nat.le_refl _, fun _ _ => rfl⟩

theorem Only.put {g : Nat} {w w' : World} (h : Only g w w') (j : Nat) (u : Value) : Only g w (w'.setCell ⟨g, j, none⟩ u) :=
  ⟨h.os, h.tape, h.output, by simpa [World.setCell] using h.size, fun k hk => (Below.heap_setCell _ _ _ _ hk).trans (h.block k hk)⟩

theorem Below.only {B g : Nat} {w W W' : World} (h : Below B w W) (ho : Only g W W') (hg : B ≤ g) : Below B w W' :=
  h.trans ⟨ho.os, ho.tape, ho.output, ho.size, fun k hk => ho.block k (by omega)⟩

theorem own_only {w w' : World} {B s n g : Nat} {e : TypeId} {v : Value} {xs : List Value} (h : w.ownsRow B e s v n xs) (ho : Only g w w') (hg : g < B) : w'.ownsRow B e s v n xs := by
  refine ⟨h.1, ?_⟩
  rcases h.2 with h' | ⟨g', cap', cur, h', hb', hg', rest⟩
  · exact .inl h'
  · exact .inr ⟨g', cap', cur, h', hb', (ho.block g' (by omega)).trans hg', rest⟩

/-- A row made behind another one stays as that other one is marked. -/
theorem own_only' {w w' w3 : World} {B3 s n m g : Nat} {e : TypeId} {v x : Value} {xs L : List Value} (h : w.ownsRow w3.heap.size e s v n xs) (ho : Only g w w') (hor : x.ownBlock = some g ∨ w' = w) (hx : w3.ownsRow B3 e s x m L) : w'.ownsRow w3.heap.size e s v n xs := by
  rcases hor with hg | rfl
  · exact own_only h ho (World.ownsRow.lt hx g hg).2
  · exact h

/-- Marks. -/
def mks (i : Nat) : Int := 1 + (i : Int)

end Go.Proofs.YtiadfabhpagmpaaDoor
