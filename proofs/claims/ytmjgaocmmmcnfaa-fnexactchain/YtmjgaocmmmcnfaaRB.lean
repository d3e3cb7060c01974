/- Structures that are made; a list run through one. -/
import Derived.Test.YtmjgaocmmmcnfaaRA
import Derived.Stop.Asserts
import Derived.Deep.RegionWith
namespace Go.Proofs.Ytmjgaocmmmcnfaa
open Go.RowKit

theorem made_zero (k : Nat) : (madeCells (Value.int .i64 0).cells (k * 1)).toList = ils (fun _ => 0) k := by
  apply List.ext_getElem?
  intro i
  by_cases h : i < k
  · rw [ils_get h]
    simp [madeCells, Value.cells, h, Nat.mod_one]
  · rw [List.getElem?_eq_none (by rw [Array.length_toList, size_madeCells]; omega), List.getElem?_eq_none (by rw [ils_length]; omega)]

/-- A list of noughts made. -/
def mkd (W : World) (k : Nat) : World := W.alloc (.cells (madeCells (Value.int .i64 0).cells (k * 1)) 3)

theorem mkd_run (W : World) {k : Nat} (hk : k ≤ 1048576) : (Instr.makeSlice 26 (.int .i64 (k : Int)) (.int .i64 (k : Int))).run Try.prog W = .ok (.slice (some ⟨W.heap.size, 0, none⟩) k k) (mkd W k) := by
  obtain ⟨i0, hi, hz0, hz1, hz2⟩ := info_parts Try.info3
  have h := run_make (P := Try.prog) W 26 3 i0 (.int .i64 0) Try.underlying26 hi hz0 .i64 .i64 k k (by omega) (Int.le_refl _) (by rw [hz2]; omega) (by omega)
  rw [Int.toNat_natCast, hz1] at h
  exact h

theorem mkd_own (W : World) {B k : Nat} (hk : k ≤ 1048576) (hB : B ≤ W.heap.size) : (mkd W k).ownsRow B 3 1 (.slice (some ⟨W.heap.size, 0, none⟩) k k) k (ils (fun _ => 0) k) := by
  have h := World.ownsRow_lit (base := B) (e := 3) (size := 1) W (madeCells (Value.int .i64 0).cells (k * 1)) k hB (by unfold maxLen; omega) (size_madeCells _ _)
  rw [made_zero] at h
  exact h

theorem mkd_below (W : World) (k : Nat) : Below W.heap.size W (mkd W k) := below_one _ _

theorem mkd_size (W : World) (k : Nat) : (mkd W k).heap.size = W.heap.size + 1 := by simp [mkd]

theorem own_lt {w : World} {B s n g c : Nat} {e : TypeId} {xs : List Value} (h : w.ownsRow B e s (.slice (some ⟨g, 0, none⟩) n c) n xs) : B ≤ g ∧ g < w.heap.size := by
  have := World.ownsRow.lt h g rfl
  omega

/-- A gathering: a comb, and the last sum. -/
structure Gt (W : World) (B G C P m : Nat) (f : Nat → Int) (o : Nat) (s : Int) : Prop where
  rg : Rg W G (.pointer (some ⟨C, 0, none⟩)) (.int .i64 s)
  cb : Cb W B C P m f o
  nc : G ≠ C
  np : G ≠ P

abbrev GtD (G C P : Nat) (g : Nat) : Prop := g = G ∨ CbD C P g

theorem Gt.block {W W' : World} {B G C P m o : Nat} {f : Nat → Int} {s : Int} (h : Gt W B G C P m f o s) (e : ∀ g, GtD G C P g → W'.heap[g]? = W.heap[g]?) : Gt W' B G C P m f o s :=
  ⟨h.rg.block (e G (.inl rfl)), h.cb.block (fun g hg => e g (.inr hg)), h.nc, h.np⟩

theorem Rg.kd {D : Nat → Prop} {W W' : World} {g : Nat} {x y : Value} (h : Rg W g x y) (hk : Kd D W W') (hd : ¬ D g) : Rg W' g x y := h.block (hk.block g h.lt hd)

end Go.Proofs.Ytmjgaocmmmcnfaa
