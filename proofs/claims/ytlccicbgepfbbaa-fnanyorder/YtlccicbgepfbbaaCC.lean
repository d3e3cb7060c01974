/- Numbers put in order. -/
import Derived.Test.YtlccicbgepfbbaaCB
import Derived.Shelf.Lay
import Derived.Shelf.Sort.Plain
import Derived.Sort.OwnSortedInts
import Derived.Lib.SliceRun
namespace Go.Proofs.Ytlccicbgepfbbaa
open Go.RowKit Go.Shelf Go.Sort


/-- The numbers of a row. -/
def ofF (f : Nat → Int) (n : Nat) : List Int := (List.range n).map f

theorem ofF_length (f : Nat → Int) (n : Nat) : (ofF f n).length = n := by simp [ofF]

theorem ofF_get (f : Nat → Int) {n i : Nat} (h : i < (ofF f n).length) : (ofF f n)[i] = f i := by simp [ofF]

theorem ils_ofF (f : Nat → Int) (n : Nat) : ils f n = (ofF f n).map (Value.int .i64) := by simp [ils, ofF]

/-- In order. -/
def leI (x y : Int) : Bool := decide (x ≤ y)

def srt (n : Nat) (f : Nat → Int) (i : Nat) : Int := ((ofF f n).mergeSort fun x y => decide (x ≤ y)).getD i 0

theorem srt_ofF (n : Nat) (f : Nat → Int) : ofF (srt n f) n = (ofF f n).mergeSort fun x y => decide (x ≤ y) := by
  apply List.ext_getElem
  · rw [ofF_length, List.length_mergeSort, ofF_length]
  · intro i h1 h2
    rw [ofF_get]
    unfold srt
    rw [List.getD, List.getElem?_eq_getElem h2]
    rfl

/-- In order among the first i. -/
def Ord (f : Nat → Int) (i : Nat) : Prop := ∀ a b, a < b → b < i → f a ≤ f b

/-- A row in order of the same numbers is the row put in order. -/
theorem srt_of {n : Nat} {f g : Nat → Int} (ho : Ord f n) (hp : (ofF f n).Perm (ofF g n)) : ∀ i, i < n → f i = srt n g i := by
  have e : ofF f n = ofF (srt n g) n := by
    rw [srt_ofF]
    refine List.Perm.eq_of_pairwise (le := fun a b => decide (a ≤ b) = true) (fun a b _ _ h1 h2 => by simp only [decide_eq_true_eq] at h1 h2; omega) ?_ (List.pairwise_mergeSort (fun a b c h1 h2 => by simp only [decide_eq_true_eq] at h1 h2 ⊢; omega) (fun a b => by simp only [Bool.or_eq_true, decide_eq_true_eq]; omega) _) (hp.trans (List.mergeSort_perm _ _).symm)
    rw [List.pairwise_iff_getElem]
    intro i j hi hj hij
    rw [ofF_get, ofF_get, decide_eq_true_eq]
    exact ho i j hij (by rw [ofF_length] at hj; exact hj)
  intro i hi
  have h1 : i < (ofF f n).length := by rw [ofF_length]; exact hi
  have h2 : i < (ofF (srt n g) n).length := by rw [ofF_length]; exact hi
  rw [← ofF_get f h1, ← ofF_get (srt n g) h2]
  simp only [e]

shelf_lay Lays.n189 Nm 189 at Try as Try.lays189

theorem sort_x (blk off cap : Nat) (zs : List Int) (w : World) (hH : Holds (Value.int .i64) w blk off zs.toArray) (hblk : blk < w.heap.size) (hsz : zs.length < 4611686018427387904) :
    Calls Try.prog 80 #[.slice (some ⟨blk, off, none⟩) zs.length cap] w fun e w' =>
      e = .returned (.tuple #[]) ∧ ∃ n os, w' = grow (putRow (Value.int .i64) (Sort.ahead w n) blk off (zs.mergeSort fun x y => decide (x ≤ y)).toArray) os := Any.slices_Sort_int Try.lays189 blk off cap zs w hH hblk hsz

/-- A row of its own put in order. -/
theorem sorted_own {w : World} {B g c n : Nat} {f : Nat → Int} (h : w.ownsRow B 3 1 (.slice (some ⟨g, 0, none⟩) n c) n (ils f n)) (hn : n ≤ 1048576) :
    Calls Try.prog 80 #[.slice (some ⟨g, 0, none⟩) n c] w fun e w' => e = .returned (.tuple #[]) ∧ w'.ownsRow B 3 1 (.slice (some ⟨g, 0, none⟩) n c) n (ils (srt n f) n) ∧ Below B w w' := by
  rcases h.2 with ⟨h', _⟩ | ⟨g', cap', cur, hv, hbg, hb, hc1, hc2, hc3, hc4⟩
  · cases h'
  cases hv
  have hl := ofF_length f n
  have ht : cur.toList.take (ofF f n).length = (ofF f n).map (Value.int .i64) := by
    rw [← ils_ofF, hl]
    simpa using hc4
  have hs := sort_x g 0 c (ofF f n) w (holds_of_blockI hb ht) (Array.getElem?_eq_some_iff.1 hb).1 (by omega)
  rw [hl] at hs
  refine hs.mono ?_
  rintro e w' ⟨rfl, q, os, rfl⟩
  refine ⟨rfl, ?_, (Below.refl B w).grown (grownBy_sortedI _) ?_ (fun j hj => by cases hj; exact hbg)⟩
  · have := ownsRow_sortedI (n := q) (os := os) (ss := ofF f n) (ts := (ofF f n).mergeSort fun x y => decide (x ≤ y)) (by rw [List.length_mergeSort]) hbg hb (by omega) hc2 hc3
    rw [hl, show ((ofF f n).mergeSort fun x y => decide (x ≤ y)).map (Value.int .i64) = ils (srt n f) n by rw [← srt_ofF, ← ils_ofF]] at this
    exact this
  · have := (Array.getElem?_eq_some_iff.1 hb).1
    omega

end Go.Proofs.Ytlccicbgepfbbaa
