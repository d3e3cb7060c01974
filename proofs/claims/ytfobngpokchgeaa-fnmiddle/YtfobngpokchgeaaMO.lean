/- Middles: the program's middleAt. -/
import Derived.Test.YtfobngpokchgeaaMN
import Derived.Shelf.Lay
import Derived.Shelf.Sort.Plain
import Derived.Sort.OwnSortedInts
import Derived.Lib.SliceRun
namespace Go.Proofs.Ytfobngpokchgeaa
open Go.RowKit Go.Shelf Go.Sort
shelf_lay Lays.n189 Nm 189 at Try as Try.lays189

theorem sort_x (blk off cap : Nat) (zs : List Int) (w : World) (hH : Holds (Value.int .i64) w blk off zs.toArray) (hblk : blk < w.heap.size) (hsz : zs.length < 4611686018427387904) :
    Calls Try.prog 24 #[.slice (some ⟨blk, off, none⟩) zs.length cap] w fun e w' =>
      e = .returned (.tuple #[]) ∧ ∃ n os, w' = grow (putRow (Value.int .i64) (Sort.ahead w n) blk off (zs.mergeSort fun x y => decide (x ≤ y)).toArray) os := Any.slices_Sort_int Try.lays189 blk off cap zs w hH hblk hsz

/-- A row of its own put in order. -/
theorem sorted_own {w : World} {B g c n : Nat} {f : Nat → Int} (h : w.ownsRow B 3 1 (.slice (some ⟨g, 0, none⟩) n c) n (ils f n)) (hn : n ≤ 1048576) :
    Calls Try.prog 24 #[.slice (some ⟨g, 0, none⟩) n c] w fun e w' => e = .returned (.tuple #[]) ∧ w'.ownsRow B 3 1 (.slice (some ⟨g, 0, none⟩) n c) n (ils (srt n f) n) ∧ Below B w w' := by
  rcases h.2 with ⟨h', _⟩ | ⟨g', cap', cur, hv, hbg, hb, hc1, hc2, hc3, hc4⟩
  · cases h'
  cases hv
  have hl := ofF_length f n
  have ht : cur.toList.take (ofF f n).length = (ofF f n).map (Value.int .i64) := by
    rw [← ils_ofF, hl]
    simpa using hc4
  have hs := sort_x g 0 c (ofF f n) w (holds_of_blockI hb ht) (Array.getElem?_eq_some_iff.1 hb).1 (by omega)
  rw [hl] at hs
  refine hs.mono ?_
  rintro e w' ⟨rfl, q, os, rfl⟩
  refine ⟨rfl, ?_, (Below.refl B w).grown (grownBy_sortedI _) ?_ (fun j hj => by cases hj; exact hbg)⟩
  · have := ownsRow_sortedI (n := q) (os := os) (ss := ofF f n) (ts := (ofF f n).mergeSort fun x y => decide (x ≤ y)) (by rw [List.length_mergeSort]) hbg hb (by omega) hc2 hc3
    rw [hl, show ((ofF f n).mergeSort fun x y => decide (x ≤ y)).map (Value.int .i64) = ils (srt n f) n by rw [← srt_ofF, ← ils_ofF]] at this
    exact this
  · have := (Array.getElem?_eq_some_iff.1 hb).1
    omega

/-- The numbers around i. -/
def nr (n : Nat) (xs : Nat → Int) (i h j : Nat) : Int := nea n xs ((i : Int) + j - h)

end Go.Proofs.Ytfobngpokchgeaa
