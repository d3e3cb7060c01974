/- RootsTo: the program's step, one root more. -/
import Derived.Test.YtlcnciibjhcbiaaDoorL1
import Derived.Laws.AppendOwn
namespace Go.Proofs.YtlcnciibjhcbiaaDoor
open Go.RowKit

/-- The slice holds the n complex numbers (xs, ys). -/
def Fz (w : World) (v : Value) (n : Nat) (xs ys : Nat → Nat) : Prop := ∃ ao cap, v = .slice ao n cap ∧ n ≤ cap ∧ (0 < n → ∃ b off, ao = some ⟨b, off, none⟩ ∧ b < w.heap.size ∧ ∀ k, k < n → w.cell? ⟨b, off + k, none⟩ = some (.complex .f64 (xs k) (ys k)))

theorem Fz.below {w w' : World} {v : Value} {n : Nat} {xs ys : Nat → Nat} (h : Fz w v n xs ys) (hb : Below w.heap.size w w') : Fz w' v n xs ys := by
  obtain ⟨ao, cap, rfl, hcap, hc⟩ := h
  refine ⟨ao, cap, rfl, hcap, fun h0 => ?_⟩
  obtain ⟨b, off, rfl, hlt, hcell⟩ := hc h0
  exact ⟨b, off, rfl, Nat.lt_of_lt_of_le hlt hb.size, fun k hk => (hb.cell (p := ⟨b, off + k, none⟩) hlt).trans (hcell k hk)⟩

theorem own_below {w w' : World} {B s n : Nat} {e : TypeId} {v : Value} {xs : List Value} (h : w.ownsRow B e s v n xs) (hb : Below w.heap.size w w') : w'.ownsRow B e s v n xs := by
  refine ⟨h.1, ?_⟩
  rcases h.2 with h' | ⟨g', cap', cur, h', hb', hg, rest⟩
  · exact .inl h'
  · exact .inr ⟨g', cap', cur, h', hb', (hb.block g' (Array.getElem?_eq_some_iff.1 hg).1).trans hg, rest⟩

/-- The first k complex numbers, as cells. -/
def czs (X Y : Nat → Nat) (k : Nat) : List Value := (List.range k).map fun i => .complex .f64 (X i) (Y i)

theorem czs_snoc (X Y : Nat → Nat) (k x y : Nat) : czs X Y k ++ [.complex .f64 x y] = czs (fun i => if i = k then x else X i) (fun i => if i = k then y else Y i) (k + 1) := by
  unfold czs
  rw [List.range_succ, List.map_append]
  congr 1
  · apply List.map_congr_left
    intro i hi
    have : ¬ i = k := by have := List.mem_range.1 hi; omega
    simp [this]
  · simp

theorem fz_of_own {w : World} {B n : Nat} {v : Value} {X Y : Nat → Nat} (h : w.ownsRow B 51 1 v n (czs X Y n)) : Fz w v n X Y := by
  rcases h.2 with ⟨rfl, rfl⟩ | ⟨g, cap, cur, rfl, hb, hg, hc, _⟩
  · exact ⟨none, 0, rfl, Nat.le_refl _, fun h => absurd h (by omega)⟩
  · refine ⟨_, _, rfl, hc, fun h0 => ⟨g, 0, rfl, (Array.getElem?_eq_some_iff.1 hg).1, fun k hk => ?_⟩⟩
    rw [Nat.zero_add, World.ownsRow.cellAt h k (by omega)]
    simp [czs, hk]

theorem Tryd.info51 : (Tryd.prog.info? 51).map (fun i => (i.zero, i.size, i.bytes)) = some (some (.complex .f64 0 0), 1, 16) := by kernel_rfl

theorem one_new (w : World) (v : Value) (t : TypeId) : ∀ j u, [v][j]? = some u → (w.alloc (.cells #[v] t)).cell? ((⟨w.heap.size, 0, none⟩ : Addr).add j) = some u := by
  intro j u h
  match j, h with
  | 0, h => simp at h; subst h; simp [Addr.add]
  | n + 1, h => simp at h

/-- What a step of RootsTo makes of a list: each number the next lower one less the root times the own. -/
def cnext (w1 w2 : Option Nat) (P : Nat → Option Nat × Option Nat) (k : Nat) : Option Nat × Option Nat :=
  (cop .sub (if k = 0 then some 0 else (P (k - 1)).1) (cre w1 w2 (P k).1 (P k).2), cop .sub (if k = 0 then some 0 else (P (k - 1)).2) (cim w1 w2 (P k).1 (P k).2))

theorem own_empty (w : World) (t : TypeId) (s : Nat) : (w.alloc (.cells #[] t)).ownsRow w.heap.size t s (.slice (some ⟨w.heap.size, 0, none⟩) 0 0) 0 [] :=
  ⟨by simp, .inr ⟨w.heap.size, 0, #[], rfl, Nat.le_refl _, heap_alloc_new w _, Nat.le_refl _, by decide, by simp, by simp⟩⟩

theorem grown_below {w W w3 : World} {B s n : Nat} {e : TypeId} {v : Value} {xs : List Value} (h : Below B w W) (hB : B ≤ w.heap.size) (ho : W.ownsRow B e s v n xs) (hg : W.grownBy w3 v.ownBlock) : Below B w w3 :=
  h.grown hg (Nat.le_trans hB h.size) (fun k hk => (World.ownsRow.lt ho k hk).1)

end Go.Proofs.YtlcnciibjhcbiaaDoor
