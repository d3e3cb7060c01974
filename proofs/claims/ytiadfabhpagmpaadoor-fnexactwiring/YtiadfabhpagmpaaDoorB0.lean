/- Lists of ints: what a slice holds, a copy of it, and whether two are the same. -/
import Derived.Test.YtiadfabhpagmpaaDoorA1
import Derived.Laws.OwnMore
import Derived.Deep.Cut
namespace Go.Proofs.YtiadfabhpagmpaaDoor
open Go.RowKit

theorem below_one (w : World) (o : Obj) : Below w.heap.size w (w.alloc o) := (Below.refl _ _).alloc (Nat.le_refl _) _

theorem bstep {w w1 w2 : World} (h1 : Below w.heap.size w w1) (h2 : Below w1.heap.size w1 w2) : Below w.heap.size w w2 := h1.trans (h2.mono h1.size)

/-- The slice holds the n ints xs. -/
def Il (w : World) (v : Value) (n : Nat) (xs : Nat → Int) : Prop := ∃ ao cap, v = .slice ao n cap ∧ n ≤ cap ∧ (0 < n → ∃ b off, ao = some ⟨b, off, none⟩ ∧ b < w.heap.size ∧ ∀ k, k < n → w.cell? ⟨b, off + k, none⟩ = some (.int .i64 (xs k)))

theorem Il.below {w w' : World} {v : Value} {n : Nat} {xs : Nat → Int} (h : Il w v n xs) (hb : Below w.heap.size w w') : Il w' v n xs := by
  obtain ⟨ao, cap, rfl, hcap, hc⟩ := h
  refine ⟨ao, cap, rfl, hcap, fun h0 => ?_⟩
  obtain ⟨b, off, rfl, hlt, hcell⟩ := hc h0
  exact ⟨b, off, rfl, Nat.lt_of_lt_of_le hlt hb.size, fun k hk => (hb.cell (p := ⟨b, off + k, none⟩) hlt).trans (hcell k hk)⟩

/-- The first k ints, as cells. -/
def ils (xs : Nat → Int) (k : Nat) : List Value := (List.range k).map fun i => .int .i64 (xs i)

theorem ils_length (xs : Nat → Int) (k : Nat) : (ils xs k).length = k := by simp [ils]

theorem ils_get {xs : Nat → Int} {n k : Nat} (h : k < n) : (ils xs n)[k]? = some (.int .i64 (xs k)) := by simp [ils, h]

theorem ils_snoc (xs : Nat → Int) (k : Nat) : ils xs (k + 1) = ils xs k ++ [.int .i64 (xs k)] := by simp [ils, List.range_succ]

theorem ils_set (xs : Nat → Int) (k : Nat) (L : List Value) (hk : k < L.length) : (ils xs k ++ L.drop k).set k (.int .i64 (xs k)) = ils xs (k + 1) ++ L.drop (k + 1) := by
  rw [List.set_append_right _ _ (by rw [ils_length]; exact Nat.le_refl _), ils_length, Nat.sub_self, List.drop_eq_getElem_cons hk, List.set_cons_zero, ils_snoc, List.append_assoc]
  rfl

theorem Tryd.info3 : (Tryd.prog.info? 3).map (fun i => (i.zero, i.size, i.bytes)) = some (some (.int .i64 0), 1, 8) := by kernel_rfl

theorem info_parts {o : Option TypeInfo} {z : Value} {s b : Nat} (h : o.map (fun i => (i.zero, i.size, i.bytes)) = some (some z, s, b)) : ∃ i, o = some i ∧ i.zero = some z ∧ i.size = s ∧ i.bytes = b := by
  cases o with
  | none => cases h
  | some i =>
    simp only [Option.map_some, Option.some.injEq, Prod.mk.injEq] at h
    exact ⟨i, rfl, h.1, h.2.1, h.2.2⟩

theorem il_of_own {w : World} {B n : Nat} {v : Value} {xs : Nat → Int} (h : w.ownsRow B 3 1 v n (ils xs n)) : Il w v n xs := by
  rcases h.2 with ⟨rfl, rfl⟩ | ⟨g, cap, cur, rfl, hb, hg, hc, _⟩
  · exact ⟨none, 0, rfl, Nat.le_refl _, fun h => absurd h (by omega)⟩
  · refine ⟨_, _, rfl, hc, fun h0 => ⟨g, 0, rfl, (Array.getElem?_eq_some_iff.1 hg).1, fun k hk => ?_⟩⟩
    rw [Nat.zero_add, World.ownsRow.cellAt h k (by omega), ils_get hk]

end Go.Proofs.YtiadfabhpagmpaaDoor
