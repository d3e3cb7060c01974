/- Rows of lists of ints. -/
import Derived.Test.YtabdondefoldaaaDoorGM
import Derived.Test.YtabdondefoldaaaDoorI1
import Derived.BigRegion
namespace Go.Proofs.YtabdondefoldaaaDoor
open Go.RowKit

theorem set_fun (f : Nat → Value) (n j : Nat) (u : Value) : ((List.range n).map f).set j u = (List.range n).map (fun i => if i = j then u else f i) := by
  apply List.ext_getElem
  · simp
  · intro i h1 h2
    simp only [List.getElem_set, List.getElem_map, List.getElem_range]
    by_cases h : j = i
    · subst h; simp
    · simp [h, Ne.symm h]

theorem list_fun (L : List Value) : L = (List.range L.length).map (fun i => L.getD i (.bool false)) := by
  apply List.ext_getElem
  · simp
  · intro i h1 h2
    simp [h1]

theorem Ipp.below {w w' : World} {v : Value} {n : Nat} {ms : Nat → Nat} {X : Nat → Nat → Int} (h : Ipp w v n ms X) (hb : Below w.heap.size w w') : Ipp w' v n ms X := by
  obtain ⟨ao, cap, rfl, hcap, hc⟩ := h
  refine ⟨ao, cap, rfl, hcap, fun h0 => ?_⟩
  obtain ⟨b, off, R, rfl, hlt, hcell⟩ := hc h0
  exact ⟨b, off, R, rfl, Nat.lt_of_lt_of_le hlt hb.size, fun k hk => ⟨(hb.cell (p := ⟨b, off + k, none⟩) hlt).trans (hcell k hk).1, (hcell k hk).2.below hb⟩⟩

/-- A row of slices that the call made, each list of ints in memory of its own, one behind the other. -/
def OPI (w : World) (B H : Nat) (v : Value) (n : Nat) (ms : Nat → Nat) (X : Nat → Nat → Int) : Prop := ∃ (g cap : Nat) (R : Nat → Value) (Bs : Nat → Nat), v = .slice (some ⟨g, 0, none⟩) n cap ∧ n ≤ cap ∧ B ≤ g ∧ g < Bs 0 ∧ (∀ k, k < n → Bs k ≤ Bs (k + 1)) ∧ Bs n ≤ H ∧ g < w.heap.size ∧ ∀ k, k < n → w.cell? ⟨g, k, none⟩ = some (R k) ∧ w.ownsRow (Bs k) 3 1 (R k) (ms k) (ils (X k) (ms k)) ∧ ∀ b, (R k).ownBlock = some b → b < Bs (k + 1)

theorem OPI.ipp {w : World} {B H : Nat} {v : Value} {n : Nat} {ms : Nat → Nat} {X : Nat → Nat → Int} (h : OPI w B H v n ms X) : Ipp w v n ms X := by
  obtain ⟨g, cap, R, Bs, rfl, hcap, _, _, _, _, hlt, hr⟩ := h
  exact ⟨_, cap, rfl, hcap, fun _ => ⟨g, 0, R, rfl, hlt, fun k hk => ⟨by rw [Nat.zero_add]; exact (hr k hk).1, il_of_own (hr k hk).2.1⟩⟩⟩

theorem OPI.below {w w' : World} {B H : Nat} {v : Value} {n : Nat} {ms : Nat → Nat} {X : Nat → Nat → Int} (h : OPI w B H v n ms X) (hb : Below w.heap.size w w') : OPI w' B H v n ms X := by
  obtain ⟨g, cap, R, Bs, rfl, hcap, h1, h2, h3, h4, hlt, hr⟩ := h
  exact ⟨g, cap, R, Bs, rfl, hcap, h1, h2, h3, h4, Nat.lt_of_lt_of_le hlt hb.size, fun k hk => ⟨(hb.cell (p := ⟨g, k, none⟩) hlt).trans (hr k hk).1, own_below (hr k hk).2.1 hb, (hr k hk).2.2⟩⟩


/-- Values in a row of one cell each. -/
def Ov (W : World) (B g n cap : Nat) (f : Nat → Value) : Prop := W.ownsRow B 29 1 (.slice (some ⟨g, 0, none⟩) n cap) n ((List.range n).map f)

theorem Ov.cell {W : World} {B g n cap : Nat} {f : Nat → Value} (h : Ov W B g n cap f) {j : Nat} (hj : j < n) : W.cell? ⟨g, j, none⟩ = some (f j) := by
  rw [World.ownsRow.cellAt h j (by omega)]
  simp [hj]

theorem Ov.put {W : World} {B g n cap : Nat} {f : Nat → Value} (h : Ov W B g n cap f) (j : Nat) (u : Value) : Ov (W.setCell ⟨g, j, none⟩ u) B g n cap (fun i => if i = j then u else f i) := by
  have := (World.ownsRow.stored h j u).1
  rw [set_fun] at this
  exact this

theorem rStoreS (a : Addr) (ao : Option Addr) (n c : Nat) (m : Mode) (w : World) : (store a (.slice ao n c) m).run Tryd.prog w = stored Tryd.prog w a (.slice ao n c) m := run_store Tryd.prog w a _ m rfl

/-- Only blocks of a range have turned. -/
structure Rng (B H : Nat) (w w' : World) : Prop where
  os : w'.os = w.os
  tape : w'.tape = w.tape
  output : w'.output = w.output
  size : w.heap.size ≤ w'.heap.size
  block : ∀ k, k < B ∨ H ≤ k → w'.heap[k]? = w.heap[k]?

theorem Rng.refl (B H : Nat) (w : World) : Rng B H w w := ⟨rfl, rfl, rfl, Nat.le_refl _, fun _ _ => rfl⟩
theorem Rng.only {B H g : Nat} {w w1 w2 : World} (h : Rng B H w w1) (ho : Only g w1 w2) (hg : B ≤ g ∧ g < H) : Rng B H w w2 :=
  ⟨ho.os.trans h.os, ho.tape.trans h.tape, ho.output.trans h.output, Nat.le_trans h.size ho.size, fun k hk => (ho.block k (by omega)).trans (h.block k hk)⟩
theorem Rng.below {B H C : Nat} {w w1 w2 : World} (h : Rng B H w1 w2) (hb : Below C w w1) (hC : C ≤ B) : Below C w w2 :=
  hb.trans ⟨h.os, h.tape, h.output, h.size, fun k hk => h.block k (by omega)⟩
theorem Rng.own {B H C s n : Nat} {w w' : World} {e : TypeId} {v : Value} {xs : List Value} (h : Rng B H w w') (ho : w.ownsRow C e s v n xs) (hC : H ≤ C) : w'.ownsRow C e s v n xs := by
  refine ⟨ho.1, ?_⟩
  rcases ho.2 with h' | ⟨g', cap', cur, h', hb', hg', rest⟩
  · exact .inl h'
  · exact .inr ⟨g', cap', cur, h', hb', (h.block g' (by omega)).trans hg', rest⟩

end Go.Proofs.YtabdondefoldaaaDoor
