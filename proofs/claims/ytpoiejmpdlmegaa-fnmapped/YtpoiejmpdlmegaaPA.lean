/- Rows of peaks that a call owns. -/
import Derived.Test.YtpoiejmpdlmegaaAP
import Derived.Test.YtpoiejmpdlmegaaMK
import Derived.Test.YtpoiejmpdlmegaaI1
namespace Go.Proofs.Ytpoiejmpdlmegaa
open Go.RowKit

/-- The slice holds n peaks, z their numbers. -/
def Il2 (w : World) (v : Value) (n : Nat) (z : Nat → Int) : Prop := ∃ ao cap, v = .slice ao n cap ∧ n ≤ cap ∧ (0 < n → ∃ b off, ao = some ⟨b, off, none⟩ ∧ b < w.heap.size ∧ ∀ k, k < n → w.cell? ⟨b, off + k * 2, none⟩ = some (.int .i64 (z (k * 2))) ∧ w.cell? ⟨b, off + k * 2 + 1, none⟩ = some (.int .i64 (z (k * 2 + 1))))

theorem Il2.below {w w' : World} {v : Value} {n : Nat} {z : Nat → Int} (h : Il2 w v n z) (hb : Below w.heap.size w w') : Il2 w' v n z := by
  obtain ⟨ao, cap, rfl, hcap, hc⟩ := h
  refine ⟨ao, cap, rfl, hcap, fun h0 => ?_⟩
  obtain ⟨b, off, rfl, hlt, hcell⟩ := hc h0
  exact ⟨b, off, rfl, Nat.lt_of_lt_of_le hlt hb.size, fun k hk => ⟨(hb.cell (p := ⟨b, off + k * 2, none⟩) hlt).trans (hcell k hk).1, (hb.cell (p := ⟨b, off + k * 2 + 1, none⟩) hlt).trans (hcell k hk).2⟩⟩

theorem own2_cell {w : World} {B g n cap : Nat} {z : Nat → Int} (h : w.ownsRow B 31 2 (.slice (some ⟨g, 0, none⟩) n cap) n (ils z (n * 2))) {j : Nat} (hj : j < n * 2) : w.cell? ⟨g, j, none⟩ = some (.int .i64 (z j)) := by
  rw [World.ownsRow.cellAt h j hj, ils_get hj]

theorem il2_of_own {w : World} {B n : Nat} {v : Value} {z : Nat → Int} (h : w.ownsRow B 31 2 v n (ils z (n * 2))) : Il2 w v n z := by
  rcases h.2 with ⟨rfl, rfl⟩ | ⟨g, cap, cur, rfl, hb, hg, hc, _⟩
  · exact ⟨none, 0, rfl, Nat.le_refl _, fun h => absurd h (by omega)⟩
  · refine ⟨_, _, rfl, hc, fun h0 => ⟨g, 0, rfl, (Array.getElem?_eq_some_iff.1 hg).1, fun k hk => ?_⟩⟩
    rw [Nat.zero_add]
    exact ⟨own2_cell h (by omega), own2_cell h (by omega)⟩

theorem Try.info31 : (Try.prog.info? 31).map (fun i => (i.zero, i.size, i.bytes)) = some (some (.agg #[.int .i64 0, .int .i64 0]), 2, 16) := by kernel_rfl

/-- Peaks as numbers, one after the other. -/
def zf (L : List (Int × Int)) (i : Nat) : Int := if i % 2 = 0 then (L.getD (i / 2) (0, 0)).1 else (L.getD (i / 2) (0, 0)).2

theorem zf_0 (L : List (Int × Int)) (k : Nat) : zf L (k * 2) = (L.getD k (0, 0)).1 := by
  unfold zf
  rw [Nat.mul_mod_left, if_pos rfl, Nat.mul_div_cancel _ (by decide)]

theorem zf_1 (L : List (Int × Int)) (k : Nat) : zf L (k * 2 + 1) = (L.getD k (0, 0)).2 := by
  unfold zf
  rw [show (k * 2 + 1) % 2 = 1 by omega, if_neg (by decide), show (k * 2 + 1) / 2 = k by omega]

theorem getD_app {L : List (Int × Int)} {p : Int × Int} {k : Nat} (h : k < L.length) : (L ++ [p]).getD k (0, 0) = L.getD k (0, 0) := by
  rw [List.getD_eq_getElem?_getD, List.getD_eq_getElem?_getD, List.getElem?_append_left h]

theorem getD_last (L : List (Int × Int)) (p : Int × Int) : (L ++ [p]).getD L.length (0, 0) = p := by
  rw [List.getD_eq_getElem?_getD, List.getElem?_append_right (Nat.le_refl _), Nat.sub_self]
  rfl

theorem zf_snoc (L : List (Int × Int)) (a s : Int) : ils (zf (L ++ [(a, s)])) ((L.length + 1) * 2) = ils (zf L) (L.length * 2) ++ [.int .i64 a, .int .i64 s] := by
  rw [show (L.length + 1) * 2 = L.length * 2 + 1 + 1 by omega, ils_snoc, ils_snoc, zf_0, zf_1, getD_last, List.append_assoc]
  show _ ++ [Value.int .i64 a, .int .i64 s] = _
  congr 1
  refine ils_congr fun i hi => ?_
  unfold zf
  rw [getD_app (by omega)]

theorem zf_put (L : List (Int × Int)) (p : Int × Int) (a s : Int) : ((ils (zf (L ++ [p])) ((L.length + 1) * 2)).set (L.length * 2) (.int .i64 a)).set (L.length * 2 + 1) (.int .i64 s) = ils (zf (L ++ [(a, s)])) ((L.length + 1) * 2) := by
  rw [ils_put, ils_put]
  refine ils_congr fun i hi => ?_
  by_cases h0 : i = L.length * 2 + 1
  · subst h0; rw [if_pos rfl, zf_1, getD_last]
  · rw [if_neg h0]
    by_cases h1 : i = L.length * 2
    · subst h1; rw [if_pos rfl, zf_0, getD_last]
    · rw [if_neg h1]
      unfold zf
      rw [getD_app (by omega), getD_app (by omega)]

/-- What is told: peaks in memory of the call's own, and a bool. -/
def Ppk (w w' : World) (e : Ending) (N : Nat) (z : Nat → Int) (ok : Bool) : Prop := ∃ u, e = .returned (.tuple #[u, .bool ok]) ∧ w'.ownsRow w.heap.size 31 2 u N (ils z (N * 2)) ∧ Below w.heap.size w w'

end Go.Proofs.Ytpoiejmpdlmegaa
