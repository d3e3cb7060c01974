/- The program's Fma. -/
import Derived.Test.YtfodpnbhcdkmnaaDoorM5
import Derived.Test.YtfodpnbhcdkmnaaDoorA6
namespace Go.Proofs.YtfodpnbhcdkmnaaDoor
open Go.RowKit

set_option maxHeartbeats 1000000 in
theorem addW_nan (mode kb ea eb A B la lb : Int) (na nb : Bool) : Rets 40 #[.int .i64 mode, v5 3 ea A la na, v5 kb eb B lb nb] (v5 3 ea A la na) := by
  intro w
  go_enter Tryd.func40, Tryd.ntmps40
  go_wp2
  exact bodyPost_ret (v := v5 _ ea A la na) (by simp [results, Tryd.results40, go_sem]) rfl ⟨rfl, below_34 _ _ _⟩

theorem ifma_early (f mode x y z V F : Int) (w : World)
    (hE : Calls Tryd.prog 37 #[.int .i64 f, .int .i64 mode, .slice (some ⟨w.heap.size, 0, none⟩) 3 3] (w.alloc (.cells #[.int .u64 x, .int .u64 y, .int .u64 z] 22)) fun e w' => e = .returned (.tuple #[.int .u64 V, .int .i64 F, .bool true]) ∧ Below (w.alloc (.cells #[.int .u64 x, .int .u64 y, .int .u64 z] 22)).heap.size (w.alloc (.cells #[.int .u64 x, .int .u64 y, .int .u64 z] 22)) w') :
    Calls Tryd.prog 19 #[.int .i64 f, .int .i64 mode, .int .u64 x, .int .u64 y, .int .u64 z] w fun e w' => e = .returned (.tuple #[.int .u64 V, .int .i64 F]) ∧ Below w.heap.size w w' := by
  go_enter Tryd.func19, Tryd.ntmps19
  go_wp2_with (go_at_call 37; refine hE.mono ?_; rintro e w1 ⟨rfl, hb⟩)
  go_ret2
  exact ⟨rfl, bstep (below_one _) hb⟩

set_option maxHeartbeats 2000000 in
theorem ifma_on (f mode x y z V F : Int) (va vb : Value) (km em Mm lm kc ec C : Int) (nm nc : Bool) (vm vn : Value) (w : World) (hs : Shp w) (hj : Brj w)
    (hE : Calls Tryd.prog 37 #[.int .i64 f, .int .i64 mode, .slice (some ⟨w.heap.size, 0, none⟩) 3 3] (w.alloc (.cells #[.int .u64 x, .int .u64 y, .int .u64 z] 22)) fun e w' => e = .returned (.tuple #[.int .u64 0, .int .i64 0, .bool false]) ∧ Below (w.alloc (.cells #[.int .u64 x, .int .u64 y, .int .u64 z] 22)).heap.size (w.alloc (.cells #[.int .u64 x, .int .u64 y, .int .u64 z] 22)) w')
    (hUa : ∀ W, Shp W → Brj W → Calls Tryd.prog 38 #[.int .i64 f, .int .u64 x] W fun e w' => e = .returned va ∧ Below W.heap.size W w')
    (hUb : ∀ W, Shp W → Brj W → Calls Tryd.prog 38 #[.int .i64 f, .int .u64 y] W fun e w' => e = .returned vb ∧ Below W.heap.size W w')
    (hUc : ∀ W, Shp W → Brj W → Calls Tryd.prog 38 #[.int .i64 f, .int .u64 z] W fun e w' => e = .returned (.agg #[.int .i64 kc, .bool nc, .int .i64 ec, .int .u64 C]) ∧ Below W.heap.size W w')
    (hX : Rets 44 #[va, vb] (v5 km em Mm lm nm))
    (hM : Rets 40 #[.int .i64 mode, v5 km em Mm lm nm, v5 kc ec C 0 nc] vm)
    (hN : Rets 41 #[vm] vn)
    (hS : ∀ W, Shp W → Calls Tryd.prog 39 #[.int .i64 f, .int .i64 mode, vn] W fun e w' => e = .returned (.tuple #[.int .u64 V, .int .i64 F]) ∧ Below W.heap.size W w') :
    Calls Tryd.prog 19 #[.int .i64 f, .int .i64 mode, .int .u64 x, .int .u64 y, .int .u64 z] w fun e w' => e = .returned (.tuple #[.int .u64 V, .int .i64 F]) ∧ Below w.heap.size w w' := by
  have kS : ∀ W, Below w.heap.size w W → Shp W := fun W hb => shp_below hs (shp_pos hs) hb
  have kJ : ∀ W, Below w.heap.size w W → Brj W := fun W hb => hj.below hb
  clear hs hj
  go_enter Tryd.func19, Tryd.ntmps19
  go_wp2_with (first | (go_at_call 37; refine hE.mono ?_; rintro e w1 ⟨rfl, hb1⟩; have b1 := bstep (below_one _) hb1; have s1 := kS _ b1; have j1 := kJ _ b1) | (go_at_call 38; with_reducible refine (hUa _ s1 j1).mono ?_; rintro e w2 ⟨rfl, hb2⟩; have b2 := bstep b1 hb2; have s2 := kS _ b2; have j2 := kJ _ b2) | (go_at_call 38; with_reducible refine (hUb _ s2 j2).mono ?_; rintro e w3 ⟨rfl, hb3⟩; have b3 := bstep b2 hb3) | (go_at_call 44; refine (hX _).mono ?_; rintro e w4 ⟨rfl, hb4⟩; have b4 := bstep b3 hb4; have s4 := kS _ b4; have j4 := kJ _ b4) | (go_at_call 38; with_reducible refine (hUc _ s4 j4).mono ?_; rintro e w5 ⟨rfl, hb5⟩; have b5 := bstep b4 hb5) | (go_at_call 40; refine (hM _).mono ?_; rintro e w6 ⟨rfl, hb6⟩; have b6 := bstep (bstep b5 (below_two _ _)) hb6) | (go_at_call 41; refine (hN _).mono ?_; rintro e w7 ⟨rfl, hb7⟩; have b7 := bstep b6 hb7) | (go_at_call 39; refine (hS _ (kS _ b7)).mono ?_; rintro e w8 ⟨rfl, hb8⟩; have b8 := bstep b7 hb8))
  go_ret2
  exact ⟨rfl, b8⟩
end Go.Proofs.YtfodpnbhcdkmnaaDoor
