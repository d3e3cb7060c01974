/- Lists of bytes: what a slice holds, copies, marks. -/
import Derived.Test.YtgahjkijmihmdaaWW
import Derived.Test.YtgahjkijmihmdaaMK
import Derived.Test.YtgahjkijmihmdaaAP
import Derived.Laws.BitsAllLaws
namespace Go.Proofs.Ytgahjkijmihmdaa
open Go.RowKit

theorem Try.info5 : (Try.prog.info? 5).map (fun i => (i.zero, i.size, i.bytes)) = some (some (.int .u8 0), 1, 1) := by kernel_rfl

/-- The slice holds the n bytes xs. -/
def Bl (w : World) (v : Value) (n : Nat) (xs : Nat → Int) : Prop := ∃ ao cap, v = .slice ao n cap ∧ n ≤ cap ∧ (0 < n → ∃ b off, ao = some ⟨b, off, none⟩ ∧ b < w.heap.size ∧ ∀ k, k < n → w.cell? ⟨b, off + k, none⟩ = some (.int .u8 (xs k)))

theorem Bl.below {w w' : World} {v : Value} {n : Nat} {xs : Nat → Int} (h : Bl w v n xs) (hb : Below w.heap.size w w') : Bl w' v n xs := by
  obtain ⟨ao, cap, rfl, hcap, hc⟩ := h
  refine ⟨ao, cap, rfl, hcap, fun h0 => ?_⟩
  obtain ⟨b, off, rfl, hlt, hcell⟩ := hc h0
  exact ⟨b, off, rfl, Nat.lt_of_lt_of_le hlt hb.size, fun k hk => (hb.cell (p := ⟨b, off + k, none⟩) hlt).trans (hcell k hk)⟩

def bls (xs : Nat → Int) (k : Nat) : List Value := (List.range k).map fun i => .int .u8 (xs i)

theorem bls_length (xs : Nat → Int) (k : Nat) : (bls xs k).length = k := by simp [bls]

theorem bls_get {xs : Nat → Int} {n k : Nat} (h : k < n) : (bls xs n)[k]? = some (.int .u8 (xs k)) := by simp [bls, h]

theorem bls_snoc (xs : Nat → Int) (k : Nat) : bls xs (k + 1) = bls xs k ++ [.int .u8 (xs k)] := by simp [bls, List.range_succ]

theorem bls_set (xs : Nat → Int) (k : Nat) (L : List Value) (hk : k < L.length) : (bls xs k ++ L.drop k).set k (.int .u8 (xs k)) = bls xs (k + 1) ++ L.drop (k + 1) := by
  rw [List.set_append_right _ _ (by rw [bls_length]; exact Nat.le_refl _), bls_length, Nat.sub_self, List.drop_eq_getElem_cons hk, List.set_cons_zero, bls_snoc, List.append_assoc]
  rfl

theorem bl_of_own {w : World} {B n : Nat} {v : Value} {xs : Nat → Int} (h : w.ownsRow B 5 1 v n (bls xs n)) : Bl w v n xs := by
  rcases h.2 with ⟨rfl, rfl⟩ | ⟨g, cap, cur, rfl, hb, hg, hc, _⟩
  · exact ⟨none, 0, rfl, Nat.le_refl _, fun h => absurd h (by omega)⟩
  · refine ⟨_, _, rfl, hc, fun h0 => ⟨g, 0, rfl, (Array.getElem?_eq_some_iff.1 hg).1, fun k hk => ?_⟩⟩
    rw [Nat.zero_add, World.ownsRow.cellAt h k (by omega), bls_get hk]

theorem bls_put (f : Nat → Int) (n j : Nat) (y : Int) : (bls f n).set j (.int .u8 y) = bls (fun i => if i = j then y else f i) n := by
  apply List.ext_getElem
  · simp [bls]
  · intro i h1 h2
    simp only [bls, List.getElem_set, List.getElem_map, List.getElem_range]
    by_cases h : j = i
    · subst h; simp
    · simp [h, Ne.symm h]

theorem bls_congr {f g : Nat → Int} {n : Nat} (h : ∀ k, k < n → f k = g k) : bls f n = bls g n := by
  unfold bls
  apply List.map_congr_left
  intro i hi
  rw [h i (List.mem_range.1 hi)]
end Go.Proofs.Ytgahjkijmihmdaa
