/- The walk of the law of Unpack: it answers true, and old memory stays as it was. -/
import Derived.Test.YtfoplpekeckfdaaDoorT3
namespace Go.Proofs.YtfoplpekeckfdaaDoor
open Go.RowKit

set_option maxHeartbeats 1000000 in
theorem eqNum_same (K E M : Int) (nb : Bool) (w : World) :
    Calls Tryd.prog 9 #[.agg #[.int .i64 K, .bool nb, .int .i64 E, .int .u64 M], .agg #[.int .i64 K, .bool nb, .int .i64 E, .int .u64 M]] w fun e w' => e = .returned (.bool true) ∧ Below w.heap.size w w' := by
  have hK2 : (K != K) = false := by simp
  have hE2 : (E != E) = false := by simp
  have hM2 : (M != M) = false := by simp
  go_enter Tryd.func9, Tryd.ntmps9
  go_wp2
  go_ret
  exact ⟨rfl, below_two _ _⟩

/-- Both tables lie in memory. -/
structure Tabs (w : World) : Prop where
  shp : Shp w
  brj : Brj w

theorem below_alx {w w1 w2 : World} (o : Obj) (ha : Below w.heap.size w w1) (hb : Below (w1.alloc o).heap.size (w1.alloc o) w2) : Below w.heap.size w w2 :=
  (below_al o ha).trans (hb.mono (below_al o ha).size)

set_option maxHeartbeats 1000000 in
theorem walk_unpack (f x : Int) (w : World) (ht : Tabs w) (hx0 : 0 ≤ x) (hx1 : x < 18446744073709551616) :
    Calls Tryd.prog 3 #[.int .i64 f, .int .u64 x] w fun e w' => e = .returned (.bool true) ∧ Below w.heap.size w w' := by
  obtain ⟨K, E, M, nb, h7, h8⟩ := unpack_both f x hx0 hx1
  obtain ⟨hs, hbr⟩ := ht
  have hz := shp_pos hs
  have h9 := fun w => eqNum_same K E M nb w
  clear hx1
  go_enter Tryd.func3, Tryd.ntmps3
  go_wp2_with (first | (go_at_call 7; refine (h7 _).mono ?_; rintro e w1 ⟨rfl, hb⟩) | (go_at_call 8; refine (h8 _ (shp_below hs hz (below_al _ hb)) (hbr.below (below_al _ hb))).mono ?_; rintro e w2 ⟨rfl, hb2⟩; obtain ⟨hc, hf⟩ := bcell hb2; have hsz := szlt hb2) | (go_at_call 9; refine (h9 _).mono ?_; rintro e w3 ⟨rfl, hb3⟩))
  go_ret
  exact ⟨rfl, below_alx _ (below_alx _ hb hb2) hb3⟩
end Go.Proofs.YtfoplpekeckfdaaDoor
