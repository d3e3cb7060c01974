/- addWide: the cases. -/
import Derived.Test.YtcpnmcfpnhokgaaDoorB2
import Derived.Test.YtcpnmcfpnhokgaaDoorM1
import Derived.Test.YtcpnmcfpnhokgaaDoorHM5
import Derived.Test.YtcpnmcfpnhokgaaDoorHA5
namespace Go.Proofs.YtcpnmcfpnhokgaaDoor
open Go.RowKit

set_option maxRecDepth 100000 in
set_option maxHeartbeats 4000000 in
theorem addW_x (mode ka kb ea eb A B la lb : Int) (na nb : Bool) (h : (ka = 2 ∧ (kb = 0 ∨ kb = 1)) ∨ (ka = 2 ∧ kb = 2 ∧ na = nb) ∨ (ka = 1 ∧ kb = 0)) :
    Rets 26 #[.int .i64 mode, v5 ka ea A la na, v5 kb eb B lb nb] (v5 ka ea A la na) := by
  intro w
  rcases h with ⟨rfl, rfl | rfl⟩ | ⟨rfl, rfl, rfl⟩ | ⟨rfl, rfl⟩
  all_goals
    have n1 : (na == na) = true := by simp
    go_enter Tryd.func26, Tryd.ntmps26
    go_wp2
    exact bodyPost_ret (v := v5 _ ea A la na) (by simp [results, Tryd.results26, go_sem]) rfl ⟨rfl, below_34 _ _ _⟩

set_option maxRecDepth 100000 in
set_option maxHeartbeats 4000000 in
theorem addW_y (mode ka kb ea eb A B la lb : Int) (na nb : Bool) (h : ((ka = 0 ∨ ka = 1) ∧ kb = 2) ∨ (ka = 0 ∧ kb = 0 ∧ na = nb) ∨ (ka = 0 ∧ kb = 1)) :
    Rets 26 #[.int .i64 mode, v5 ka ea A la na, v5 kb eb B lb nb] (v5 kb eb B lb nb) := by
  intro w
  rcases h with ⟨rfl | rfl, rfl⟩ | ⟨rfl, rfl, rfl⟩ | ⟨rfl, rfl⟩
  case inr.inl =>
    have n1 : (na == na) = true := by simp
    go_enter Tryd.func26, Tryd.ntmps26
    go_wp2
    exact bodyPost_ret (v := v5 _ eb B lb na) (by simp [results, Tryd.results26, go_sem]) rfl ⟨rfl, below_34 _ _ _⟩
  all_goals
    go_enter Tryd.func26, Tryd.ntmps26
    go_wp2
    exact bodyPost_ret (v := v5 _ eb B lb nb) (by simp [results, Tryd.results26, go_sem]) rfl ⟨rfl, below_34 _ _ _⟩

set_option maxRecDepth 100000 in
set_option maxHeartbeats 4000000 in
theorem addW_c (mode ea eb A B la lb : Int) (na nb : Bool) (h : na ≠ nb) :
    Rets 26 #[.int .i64 mode, v5 0 ea A la na, v5 0 eb B lb nb] (v5 0 0 0 0 (mode == 5)) := by
  intro w
  have n1 : (na == nb) = false := by simpa using h
  clear h
  have hcn := fun w => cancelled_any mode w
  have hq := w5_at (((w.alloc (Obj.cells #[.int .i64 0, .bool na, .int .i64 ea, .int .u64 A, .int .u64 la] 42)).alloc (Obj.cells #[.int .i64 0, .bool nb, .int .i64 eb, .int .u64 B, .int .u64 lb] 42))) (w.heap.size + 1 + 1) (by simp) 0 0 0 0 false
  go_enter Tryd.func26, Tryd.ntmps26
  go_wp2_with (go_at_call 61; refine (hcn _).mono ?_; rintro e w2 ⟨rfl, hb2⟩; obtain ⟨d0, d1, d2, d3, d4, k0, k1, k2, k3, k4⟩ := hq.below hb2)
  refine bodyPost_ret (v := v5 0 0 0 0 (mode == 5)) (by simp [results, Tryd.results26, go_sem, d0, d1, d2, d3, d4]) rfl ⟨rfl, ?_⟩
  exact below_sc (below_sc (below_sc (below_sc (below_sc (bstep (below_34 _ _ _) hb2) (le2 _) _) (le2 _) _) (le2 _) _) (le2 _) _) (le2 _) _

set_option maxRecDepth 100000 in
set_option maxHeartbeats 4000000 in
theorem addW_f (mode ea eb A B la lb K E M L : Int) (na nb n : Bool) (hF : Rets 62 #[.int .i64 mode, v5 1 ea A la na, v5 1 eb B lb nb] (v5 K E M L n)) :
    Rets 26 #[.int .i64 mode, v5 1 ea A la na, v5 1 eb B lb nb] (v5 K E M L n) := by
  intro w
  have hq := w5_at (((w.alloc (Obj.cells #[.int .i64 1, .bool na, .int .i64 ea, .int .u64 A, .int .u64 la] 42)).alloc (Obj.cells #[.int .i64 1, .bool nb, .int .i64 eb, .int .u64 B, .int .u64 lb] 42))) (w.heap.size + 1 + 1) (by simp) 0 0 0 0 false
  go_enter Tryd.func26, Tryd.ntmps26
  go_wp2_with (go_at_call 62; refine (hF _).mono ?_; rintro e w2 ⟨rfl, hb2⟩; obtain ⟨d0, d1, d2, d3, d4, k0, k1, k2, k3, k4⟩ := hq.below hb2)
  refine bodyPost_ret (v := v5 K E M L n) (by simp [results, Tryd.results26, go_sem, d0, d1, d2, d3, d4]) rfl ⟨rfl, ?_⟩
  exact below_sc (below_sc (below_sc (below_sc (below_sc (bstep (below_34 _ _ _) hb2) (le2 _) _) (le2 _) _) (le2 _) _) (le2 _) _) (le2 _) _

set_option maxRecDepth 100000 in
set_option maxHeartbeats 4000000 in
theorem addW_n (mode ea eb A B la lb : Int) (na nb : Bool) (h : na ≠ nb) :
    Rets 26 #[.int .i64 mode, v5 2 ea A la na, v5 2 eb B lb nb] (v5 3 0 0 0 false) := by
  intro w
  have n1 : (na == nb) = false := by simpa using h
  clear h
  have hcn := fun w => wideNan_any w
  have hq := w5_at (((w.alloc (Obj.cells #[.int .i64 2, .bool na, .int .i64 ea, .int .u64 A, .int .u64 la] 42)).alloc (Obj.cells #[.int .i64 2, .bool nb, .int .i64 eb, .int .u64 B, .int .u64 lb] 42))) (w.heap.size + 1 + 1) (by simp) 0 0 0 0 false
  go_enter Tryd.func26, Tryd.ntmps26
  go_wp2_with (go_at_call 60; refine (hcn _).mono ?_; rintro e w2 ⟨rfl, hb2⟩; obtain ⟨d0, d1, d2, d3, d4, k0, k1, k2, k3, k4⟩ := hq.below hb2)
  refine bodyPost_ret (v := v5 3 0 0 0 false) (by simp [results, Tryd.results26, go_sem, d0, d1, d2, d3, d4]) rfl ⟨rfl, ?_⟩
  exact below_sc (below_sc (below_sc (below_sc (below_sc (bstep (below_34 _ _ _) hb2) (le2 _) _) (le2 _) _) (le2 _) _) (le2 _) _) (le2 _) _
end Go.Proofs.YtcpnmcfpnhokgaaDoor

/- The program's Add. -/
namespace Go.Proofs.YtcpnmcfpnhokgaaDoor
open Go.RowKit

set_option maxRecDepth 100000 in
/-- The program's Add where the early answer is one. -/
theorem iadd_early (f mode x y V F : Int) (w : World)
    (hE : Calls Tryd.prog 24 #[.int .i64 f, .int .i64 mode, .slice (some ⟨w.heap.size, 0, none⟩) 2 2] (w.alloc (.cells #[.int .u64 x, .int .u64 y] 24)) fun e w' => e = .returned (.tuple #[.int .u64 V, .int .i64 F, .bool true]) ∧ Below (w.alloc (.cells #[.int .u64 x, .int .u64 y] 24)).heap.size (w.alloc (.cells #[.int .u64 x, .int .u64 y] 24)) w') :
    Calls Tryd.prog 8 #[.int .i64 f, .int .i64 mode, .int .u64 x, .int .u64 y] w fun e w' => e = .returned (.tuple #[.int .u64 V, .int .i64 F]) ∧ Below w.heap.size w w' := by
  go_enter Tryd.func8, Tryd.ntmps8
  go_wp2_with (go_at_call 24; refine hE.mono ?_; rintro e w1 ⟨rfl, hb⟩)
  go_ret2
  exact ⟨rfl, bstep (below_one _) hb⟩

set_option maxRecDepth 100000 in
set_option maxHeartbeats 1000000 in
theorem iadd_on (f mode x y V F : Int) (ka kb ea eb A B : Int) (na nb : Bool) (vm vn : Value) (w : World) (hs : Shp w) (hj : Brj w)
    (hE : Calls Tryd.prog 24 #[.int .i64 f, .int .i64 mode, .slice (some ⟨w.heap.size, 0, none⟩) 2 2] (w.alloc (.cells #[.int .u64 x, .int .u64 y] 24)) fun e w' => e = .returned (.tuple #[.int .u64 0, .int .i64 0, .bool false]) ∧ Below (w.alloc (.cells #[.int .u64 x, .int .u64 y] 24)).heap.size (w.alloc (.cells #[.int .u64 x, .int .u64 y] 24)) w')
    (hUa : ∀ W, Shp W → Brj W → Calls Tryd.prog 11 #[.int .i64 f, .int .u64 x] W fun e w' => e = .returned (.agg #[.int .i64 ka, .bool na, .int .i64 ea, .int .u64 A]) ∧ Below W.heap.size W w')
    (hUb : ∀ W, Shp W → Brj W → Calls Tryd.prog 11 #[.int .i64 f, .int .u64 y] W fun e w' => e = .returned (.agg #[.int .i64 kb, .bool nb, .int .i64 eb, .int .u64 B]) ∧ Below W.heap.size W w')
    (hM : ∀ W, Calls Tryd.prog 26 #[.int .i64 mode, v5 ka ea A 0 na, v5 kb eb B 0 nb] W fun e w' => e = .returned vm ∧ Below W.heap.size W w')
    (hN : ∀ W, Calls Tryd.prog 27 #[vm] W fun e w' => e = .returned vn ∧ Below W.heap.size W w')
    (hS : ∀ W, Shp W → Calls Tryd.prog 25 #[.int .i64 f, .int .i64 mode, vn] W fun e w' => e = .returned (.tuple #[.int .u64 V, .int .i64 F]) ∧ Below W.heap.size W w') :
    Calls Tryd.prog 8 #[.int .i64 f, .int .i64 mode, .int .u64 x, .int .u64 y] w fun e w' => e = .returned (.tuple #[.int .u64 V, .int .i64 F]) ∧ Below w.heap.size w w' := by
  have kS : ∀ W, Below w.heap.size w W → Shp W := fun W hb => shp_below hs (shp_pos hs) hb
  have kJ : ∀ W, Below w.heap.size w W → Brj W := fun W hb => hj.below hb
  clear hs hj
  go_enter Tryd.func8, Tryd.ntmps8
  go_wp2_with (first | (go_at_call 24; refine hE.mono ?_; rintro e w1 ⟨rfl, hb1⟩; have b1 := bstep (below_one _) hb1; have s1 := kS _ b1; have j1 := kJ _ b1) | (go_at_call 11; with_reducible refine (hUa _ s1 j1).mono ?_; rintro e w2 ⟨rfl, hb2⟩; have b2 := bstep b1 hb2; have s2 := kS _ b2; have j2 := kJ _ b2) | (go_at_call 11; with_reducible refine (hUb _ s2 j2).mono ?_; rintro e w3 ⟨rfl, hb3⟩; have b3 := bstep b2 hb3) | (go_at_call 26; refine (hM _).mono ?_; rintro e w4 ⟨rfl, hb4⟩; have b4 := bstep (bstep b3 (below_two _ _)) hb4) | (go_at_call 27; refine (hN _).mono ?_; rintro e w5 ⟨rfl, hb5⟩; have b5 := bstep b4 hb5) | (go_at_call 25; refine (hS _ (kS _ b5)).mono ?_; rintro e w6 ⟨rfl, hb6⟩; have b6 := bstep b5 hb6))
  go_ret2
  exact ⟨rfl, b6⟩
end Go.Proofs.YtcpnmcfpnhokgaaDoor
