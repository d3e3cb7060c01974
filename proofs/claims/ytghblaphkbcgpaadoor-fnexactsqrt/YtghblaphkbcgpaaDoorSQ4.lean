/- The program's Sqrt. -/
import Derived.Test.YtghblaphkbcgpaaDoorSQ3
import Derived.Test.YtghblaphkbcgpaaDoorHM5
import Derived.Test.YtghblaphkbcgpaaDoorT4
namespace Go.Proofs.YtghblaphkbcgpaaDoor
open Go.RowKit

theorem rootNum_zero (E M : Int) (n : Bool) (w : World) : Calls Tryd.prog 16 #[.agg #[.int .i64 0, .bool n, .int .i64 E, .int .u64 M]] w fun e w' => e = .returned (.agg #[.int .i64 0, .bool n, .int .i64 E, .int .u64 M]) ∧ Below w.heap.size w w' := by
  go_enter Tryd.func16, Tryd.ntmps16
  go_wp2
  refine bodyPost_ret (v := .agg #[.int .i64 0, .bool n, .int .i64 E, .int .u64 M]) (by simp [results, Tryd.results16, go_sem]) rfl ⟨rfl, ?_⟩
  first | exact below_two _ _ | exact below_one _

theorem rootNum_neg (K E M : Int) (hK : (K == 0) = false) (w : World) : Calls Tryd.prog 16 #[.agg #[.int .i64 K, .bool true, .int .i64 E, .int .u64 M]] w fun e w' => e = .returned (.agg #[.int .i64 3, .bool false, .int .i64 0, .int .u64 0]) ∧ Below w.heap.size w w' := by
  go_enter Tryd.func16, Tryd.ntmps16
  go_wp2
  refine bodyPost_ret (v := .agg #[.int .i64 3, .bool false, .int .i64 0, .int .u64 0]) (by simp [results, Tryd.results16, go_sem]) rfl ⟨rfl, ?_⟩
  first | exact below_two _ _ | exact below_one _

theorem rootNum_inf (E M : Int) (w : World) : Calls Tryd.prog 16 #[.agg #[.int .i64 2, .bool false, .int .i64 E, .int .u64 M]] w fun e w' => e = .returned (.agg #[.int .i64 2, .bool false, .int .i64 E, .int .u64 M]) ∧ Below w.heap.size w w' := by
  go_enter Tryd.func16, Tryd.ntmps16
  go_wp2
  refine bodyPost_ret (v := .agg #[.int .i64 2, .bool false, .int .i64 E, .int .u64 M]) (by simp [results, Tryd.results16, go_sem]) rfl ⟨rfl, ?_⟩
  first | exact below_two _ _ | exact below_one _

theorem isqrt_early (f mode x V F : Int) (w : World)
    (hE : Calls Tryd.prog 14 #[.int .i64 f, .int .i64 mode, .slice (some ⟨w.heap.size, 0, none⟩) 1 1] (w.alloc (.cells #[.int .u64 x] 22)) fun e w' => e = .returned (.tuple #[.int .u64 V, .int .i64 F, .bool true]) ∧ Below (w.alloc (.cells #[.int .u64 x] 22)).heap.size (w.alloc (.cells #[.int .u64 x] 22)) w') :
    Calls Tryd.prog 5 #[.int .i64 f, .int .i64 mode, .int .u64 x] w fun e w' => e = .returned (.tuple #[.int .u64 V, .int .i64 F]) ∧ Below w.heap.size w w' := by
  go_enter Tryd.func5, Tryd.ntmps5
  go_wp2_with (go_at_call 14; refine hE.mono ?_; rintro e w1 ⟨rfl, hb⟩)
  go_ret2
  exact ⟨rfl, bstep (below_one _) hb⟩

set_option maxHeartbeats 1000000 in
theorem isqrt_on (f mode x V F : Int) (va vr : Value) (w : World) (hs : Shp w) (hj : Brj w)
    (hE : Calls Tryd.prog 14 #[.int .i64 f, .int .i64 mode, .slice (some ⟨w.heap.size, 0, none⟩) 1 1] (w.alloc (.cells #[.int .u64 x] 22)) fun e w' => e = .returned (.tuple #[.int .u64 0, .int .i64 0, .bool false]) ∧ Below (w.alloc (.cells #[.int .u64 x] 22)).heap.size (w.alloc (.cells #[.int .u64 x] 22)) w')
    (hUa : ∀ W, Shp W → Brj W → Calls Tryd.prog 17 #[.int .i64 f, .int .u64 x] W fun e w' => e = .returned va ∧ Below W.heap.size W w')
    (hR : ∀ W, Calls Tryd.prog 16 #[va] W fun e w' => e = .returned vr ∧ Below W.heap.size W w')
    (hS : ∀ W, Shp W → Calls Tryd.prog 15 #[.int .i64 f, .int .i64 mode, vr] W fun e w' => e = .returned (.tuple #[.int .u64 V, .int .i64 F]) ∧ Below W.heap.size W w') :
    Calls Tryd.prog 5 #[.int .i64 f, .int .i64 mode, .int .u64 x] w fun e w' => e = .returned (.tuple #[.int .u64 V, .int .i64 F]) ∧ Below w.heap.size w w' := by
  have kS : ∀ W, Below w.heap.size w W → Shp W := fun W hb => shp_below hs (shp_pos hs) hb
  have kJ : ∀ W, Below w.heap.size w W → Brj W := fun W hb => hj.below hb
  clear hs hj
  go_enter Tryd.func5, Tryd.ntmps5
  go_wp2_with (first | (go_at_call 14; refine hE.mono ?_; rintro e w1 ⟨rfl, hb1⟩; have b1 := bstep (below_one _) hb1; have s1 := kS _ b1; have j1 := kJ _ b1) | (go_at_call 17; refine (hUa _ s1 j1).mono ?_; rintro e w2 ⟨rfl, hb2⟩; have b2 := bstep b1 hb2) | (go_at_call 16; refine (hR _).mono ?_; rintro e w3 ⟨rfl, hb3⟩; have b3 := bstep b2 hb3; have s3 := kS _ b3) | (go_at_call 15; refine (hS _ s3).mono ?_; rintro e w4 ⟨rfl, hb4⟩; have b4 := bstep b3 hb4))
  go_ret2
  exact ⟨rfl, b4⟩
end Go.Proofs.YtghblaphkbcgpaaDoor
