/- The program's Add. -/
import Derived.Test.YtfodpnbhcdkmnaaDoorM5
import Derived.Test.YtfodpnbhcdkmnaaDoorA6
namespace Go.Proofs.YtfodpnbhcdkmnaaDoor
open Go.RowKit

/-- The program's Add where the early answer is one. -/
theorem iadd_early (f mode x y V F : Int) (w : World)
    (hE : Calls Tryd.prog 37 #[.int .i64 f, .int .i64 mode, .slice (some ⟨w.heap.size, 0, none⟩) 2 2] (w.alloc (.cells #[.int .u64 x, .int .u64 y] 22)) fun e w' => e = .returned (.tuple #[.int .u64 V, .int .i64 F, .bool true]) ∧ Below (w.alloc (.cells #[.int .u64 x, .int .u64 y] 22)).heap.size (w.alloc (.cells #[.int .u64 x, .int .u64 y] 22)) w') :
    Calls Tryd.prog 13 #[.int .i64 f, .int .i64 mode, .int .u64 x, .int .u64 y] w fun e w' => e = .returned (.tuple #[.int .u64 V, .int .i64 F]) ∧ Below w.heap.size w w' := by
  go_enter Tryd.func13, Tryd.ntmps13
  go_wp2_with (go_at_call 37; refine hE.mono ?_; rintro e w1 ⟨rfl, hb⟩)
  go_ret2
  exact ⟨rfl, bstep (below_one _) hb⟩

set_option maxHeartbeats 1000000 in
theorem iadd_on (f mode x y V F : Int) (ka kb ea eb A B : Int) (na nb : Bool) (vm vn : Value) (w : World) (hs : Shp w) (hj : Brj w)
    (hE : Calls Tryd.prog 37 #[.int .i64 f, .int .i64 mode, .slice (some ⟨w.heap.size, 0, none⟩) 2 2] (w.alloc (.cells #[.int .u64 x, .int .u64 y] 22)) fun e w' => e = .returned (.tuple #[.int .u64 0, .int .i64 0, .bool false]) ∧ Below (w.alloc (.cells #[.int .u64 x, .int .u64 y] 22)).heap.size (w.alloc (.cells #[.int .u64 x, .int .u64 y] 22)) w')
    (hUa : ∀ W, Shp W → Brj W → Calls Tryd.prog 38 #[.int .i64 f, .int .u64 x] W fun e w' => e = .returned (.agg #[.int .i64 ka, .bool na, .int .i64 ea, .int .u64 A]) ∧ Below W.heap.size W w')
    (hUb : ∀ W, Shp W → Brj W → Calls Tryd.prog 38 #[.int .i64 f, .int .u64 y] W fun e w' => e = .returned (.agg #[.int .i64 kb, .bool nb, .int .i64 eb, .int .u64 B]) ∧ Below W.heap.size W w')
    (hM : ∀ W, Calls Tryd.prog 40 #[.int .i64 mode, v5 ka ea A 0 na, v5 kb eb B 0 nb] W fun e w' => e = .returned vm ∧ Below W.heap.size W w')
    (hN : ∀ W, Calls Tryd.prog 41 #[vm] W fun e w' => e = .returned vn ∧ Below W.heap.size W w')
    (hS : ∀ W, Shp W → Calls Tryd.prog 39 #[.int .i64 f, .int .i64 mode, vn] W fun e w' => e = .returned (.tuple #[.int .u64 V, .int .i64 F]) ∧ Below W.heap.size W w') :
    Calls Tryd.prog 13 #[.int .i64 f, .int .i64 mode, .int .u64 x, .int .u64 y] w fun e w' => e = .returned (.tuple #[.int .u64 V, .int .i64 F]) ∧ Below w.heap.size w w' := by
  have kS : ∀ W, Below w.heap.size w W → Shp W := fun W hb => shp_below hs (shp_pos hs) hb
  have kJ : ∀ W, Below w.heap.size w W → Brj W := fun W hb => hj.below hb
  clear hs hj
  go_enter Tryd.func13, Tryd.ntmps13
  go_wp2_with (first | (go_at_call 37; refine hE.mono ?_; rintro e w1 ⟨rfl, hb1⟩; have b1 := bstep (below_one _) hb1; have s1 := kS _ b1; have j1 := kJ _ b1) | (go_at_call 38; with_reducible refine (hUa _ s1 j1).mono ?_; rintro e w2 ⟨rfl, hb2⟩; have b2 := bstep b1 hb2; have s2 := kS _ b2; have j2 := kJ _ b2) | (go_at_call 38; with_reducible refine (hUb _ s2 j2).mono ?_; rintro e w3 ⟨rfl, hb3⟩; have b3 := bstep b2 hb3) | (go_at_call 40; refine (hM _).mono ?_; rintro e w4 ⟨rfl, hb4⟩; have b4 := bstep (bstep b3 (below_two _ _)) hb4) | (go_at_call 41; refine (hN _).mono ?_; rintro e w5 ⟨rfl, hb5⟩; have b5 := bstep b4 hb5) | (go_at_call 39; refine (hS _ (kS _ b5)).mono ?_; rintro e w6 ⟨rfl, hb6⟩; have b6 := bstep b5 hb6))
  go_ret2
  exact ⟨rfl, b6⟩
end Go.Proofs.YtfodpnbhcdkmnaaDoor
