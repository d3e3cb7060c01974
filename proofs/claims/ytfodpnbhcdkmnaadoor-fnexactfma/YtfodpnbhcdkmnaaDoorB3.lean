/- addWide: the cases. -/
import Derived.Test.YtfodpnbhcdkmnaaDoorB2
import Derived.Test.YtfodpnbhcdkmnaaDoorM1
namespace Go.Proofs.YtfodpnbhcdkmnaaDoor
open Go.RowKit

set_option maxHeartbeats 4000000 in
theorem addW_x (mode ka kb ea eb A B la lb : Int) (na nb : Bool) (h : (ka = 2 ∧ (kb = 0 ∨ kb = 1)) ∨ (ka = 2 ∧ kb = 2 ∧ na = nb) ∨ (ka = 1 ∧ kb = 0)) :
    Rets 40 #[.int .i64 mode, v5 ka ea A la na, v5 kb eb B lb nb] (v5 ka ea A la na) := by
  intro w
  rcases h with ⟨rfl, rfl | rfl⟩ | ⟨rfl, rfl, rfl⟩ | ⟨rfl, rfl⟩
  all_goals
    have n1 : (na == na) = true := by simp
    go_enter Tryd.func40, Tryd.ntmps40
    go_wp2
    exact bodyPost_ret (v := v5 _ ea A la na) (by simp [results, Tryd.results40, go_sem]) rfl ⟨rfl, below_34 _ _ _⟩

set_option maxHeartbeats 4000000 in
theorem addW_y (mode ka kb ea eb A B la lb : Int) (na nb : Bool) (h : ((ka = 0 ∨ ka = 1) ∧ kb = 2) ∨ (ka = 0 ∧ kb = 0 ∧ na = nb) ∨ (ka = 0 ∧ kb = 1)) :
    Rets 40 #[.int .i64 mode, v5 ka ea A la na, v5 kb eb B lb nb] (v5 kb eb B lb nb) := by
  intro w
  rcases h with ⟨rfl | rfl, rfl⟩ | ⟨rfl, rfl, rfl⟩ | ⟨rfl, rfl⟩
  case inr.inl =>
    have n1 : (na == na) = true := by simp
    go_enter Tryd.func40, Tryd.ntmps40
    go_wp2
    exact bodyPost_ret (v := v5 _ eb B lb na) (by simp [results, Tryd.results40, go_sem]) rfl ⟨rfl, below_34 _ _ _⟩
  all_goals
    go_enter Tryd.func40, Tryd.ntmps40
    go_wp2
    exact bodyPost_ret (v := v5 _ eb B lb nb) (by simp [results, Tryd.results40, go_sem]) rfl ⟨rfl, below_34 _ _ _⟩

set_option maxHeartbeats 4000000 in
theorem addW_c (mode ea eb A B la lb : Int) (na nb : Bool) (h : na ≠ nb) :
    Rets 40 #[.int .i64 mode, v5 0 ea A la na, v5 0 eb B lb nb] (v5 0 0 0 0 (mode == 5)) := by
  intro w
  have n1 : (na == nb) = false := by simpa using h
  clear h
  have hcn := fun w => cancelled_any mode w
  have hq := w5_at (((w.alloc (Obj.cells #[.int .i64 0, .bool na, .int .i64 ea, .int .u64 A, .int .u64 la] 53)).alloc (Obj.cells #[.int .i64 0, .bool nb, .int .i64 eb, .int .u64 B, .int .u64 lb] 53))) (w.heap.size + 1 + 1) (by simp) 0 0 0 0 false
  go_enter Tryd.func40, Tryd.ntmps40
  go_wp2_with (go_at_call 66; refine (hcn _).mono ?_; rintro e w2 ⟨rfl, hb2⟩; obtain ⟨d0, d1, d2, d3, d4, k0, k1, k2, k3, k4⟩ := hq.below hb2)
  refine bodyPost_ret (v := v5 0 0 0 0 (mode == 5)) (by simp [results, Tryd.results40, go_sem, d0, d1, d2, d3, d4]) rfl ⟨rfl, ?_⟩
  exact below_sc (below_sc (below_sc (below_sc (below_sc (bstep (below_34 _ _ _) hb2) (le2 _) _) (le2 _) _) (le2 _) _) (le2 _) _) (le2 _) _

set_option maxHeartbeats 4000000 in
theorem addW_f (mode ea eb A B la lb K E M L : Int) (na nb n : Bool) (hF : Rets 67 #[.int .i64 mode, v5 1 ea A la na, v5 1 eb B lb nb] (v5 K E M L n)) :
    Rets 40 #[.int .i64 mode, v5 1 ea A la na, v5 1 eb B lb nb] (v5 K E M L n) := by
  intro w
  have hq := w5_at (((w.alloc (Obj.cells #[.int .i64 1, .bool na, .int .i64 ea, .int .u64 A, .int .u64 la] 53)).alloc (Obj.cells #[.int .i64 1, .bool nb, .int .i64 eb, .int .u64 B, .int .u64 lb] 53))) (w.heap.size + 1 + 1) (by simp) 0 0 0 0 false
  go_enter Tryd.func40, Tryd.ntmps40
  go_wp2_with (go_at_call 67; refine (hF _).mono ?_; rintro e w2 ⟨rfl, hb2⟩; obtain ⟨d0, d1, d2, d3, d4, k0, k1, k2, k3, k4⟩ := hq.below hb2)
  refine bodyPost_ret (v := v5 K E M L n) (by simp [results, Tryd.results40, go_sem, d0, d1, d2, d3, d4]) rfl ⟨rfl, ?_⟩
  exact below_sc (below_sc (below_sc (below_sc (below_sc (bstep (below_34 _ _ _) hb2) (le2 _) _) (le2 _) _) (le2 _) _) (le2 _) _) (le2 _) _

set_option maxHeartbeats 4000000 in
theorem addW_n (mode ea eb A B la lb : Int) (na nb : Bool) (h : na ≠ nb) :
    Rets 40 #[.int .i64 mode, v5 2 ea A la na, v5 2 eb B lb nb] (v5 3 0 0 0 false) := by
  intro w
  have n1 : (na == nb) = false := by simpa using h
  clear h
  have hcn := fun w => wideNan_any w
  have hq := w5_at (((w.alloc (Obj.cells #[.int .i64 2, .bool na, .int .i64 ea, .int .u64 A, .int .u64 la] 53)).alloc (Obj.cells #[.int .i64 2, .bool nb, .int .i64 eb, .int .u64 B, .int .u64 lb] 53))) (w.heap.size + 1 + 1) (by simp) 0 0 0 0 false
  go_enter Tryd.func40, Tryd.ntmps40
  go_wp2_with (go_at_call 65; refine (hcn _).mono ?_; rintro e w2 ⟨rfl, hb2⟩; obtain ⟨d0, d1, d2, d3, d4, k0, k1, k2, k3, k4⟩ := hq.below hb2)
  refine bodyPost_ret (v := v5 3 0 0 0 false) (by simp [results, Tryd.results40, go_sem, d0, d1, d2, d3, d4]) rfl ⟨rfl, ?_⟩
  exact below_sc (below_sc (below_sc (below_sc (below_sc (bstep (below_34 _ _ _) hb2) (le2 _) _) (le2 _) _) (le2 _) _) (le2 _) _) (le2 _) _
end Go.Proofs.YtfodpnbhcdkmnaaDoor
