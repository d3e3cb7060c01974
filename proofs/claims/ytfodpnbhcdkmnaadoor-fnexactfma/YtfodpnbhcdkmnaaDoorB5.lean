/- The model's Add: the walks. -/
import Derived.Test.YtfodpnbhcdkmnaaDoorM4
import Derived.Test.YtfodpnbhcdkmnaaDoorM6
namespace Go.Proofs.YtfodpnbhcdkmnaaDoor
open Go.RowKit

theorem sadd_bad (f mode x y : Int) (w : World)
    (hA0 : ∀ W v, Lu W v 2 (fun k => if k = 0 then x else y) → Calls Tryd.prog 33 #[.int .i64 f, .int .i64 mode, v] W fun e w' => e = .returned (.bool false) ∧ w' = W) :
    Calls Tryd.prog 12 #[.int .i64 f, .int .i64 mode, .int .u64 x, .int .u64 y] w fun e w' => e = .returned (.tuple #[.int .u64 0, .int .i64 0]) ∧ Below w.heap.size w w' := by
  have hA1 := hA0 _ _ (lu_two x y w w.heap.size rfl)
  clear hA0
  go_enter Tryd.func12, Tryd.ntmps12
  go_wp2_with (go_at_call 33; refine hA1.mono ?_; rintro e w' ⟨rfl, hw⟩; obtain rfl := hw.symm)
  go_ret2
  exact ⟨rfl, below_one _⟩

theorem sadd_nan (f mode x y pl fl : Int) (w : World)
    (hA0 : ∀ W v, Lu W v 2 (fun k => if k = 0 then x else y) → Calls Tryd.prog 33 #[.int .i64 f, .int .i64 mode, v] W fun e w' => e = .returned (.bool true) ∧ w' = W)
    (hN0 : ∀ W v, Lu W v 2 (fun k => if k = 0 then x else y) → Calls Tryd.prog 34 #[.int .i64 f, v] W fun e w' => e = .returned (.tuple #[.int .u64 pl, .int .i64 fl, .bool true]) ∧ Below W.heap.size W w') :
    Calls Tryd.prog 12 #[.int .i64 f, .int .i64 mode, .int .u64 x, .int .u64 y] w fun e w' => e = .returned (.tuple #[.int .u64 pl, .int .i64 fl]) ∧ Below w.heap.size w w' := by
  have hA1 := hA0 _ _ (lu_two x y w w.heap.size rfl)
  have hN1 := hN0 _ _ (lu_two x y (w.alloc (.cells #[.int .u64 x, .int .u64 y] 22)) (w.heap.size + 1) (by simp))
  clear hA0 hN0
  go_enter Tryd.func12, Tryd.ntmps12
  go_wp2_with (first | (go_at_call 33; refine hA1.mono ?_; rintro e w' ⟨rfl, hw⟩; obtain rfl := hw.symm) | (go_at_call 34; refine hN1.mono ?_; rintro e w1 ⟨rfl, hb1⟩))
  go_ret2
  exact ⟨rfl, bstep (below_two _ _) hb1⟩

set_option maxHeartbeats 2000000 in
theorem sadd_x (f mode x y ka kb ea eb A B pl hl : Int) (na nb : Bool) (w : World) (h : (ka = 2 ∧ (kb = 0 ∨ kb = 1)) ∨ (ka = 2 ∧ kb = 2 ∧ na = nb))
    (hA0 : ∀ W v, Lu W v 2 (fun k => if k = 0 then x else y) → Calls Tryd.prog 33 #[.int .i64 f, .int .i64 mode, v] W fun e w' => e = .returned (.bool true) ∧ w' = W)
    (hN0 : ∀ W v, Lu W v 2 (fun k => if k = 0 then x else y) → Calls Tryd.prog 34 #[.int .i64 f, v] W fun e w' => e = .returned (.tuple #[.int .u64 pl, .int .i64 hl, .bool false]) ∧ Below W.heap.size W w')
    (hUa : ∀ W, Calls Tryd.prog 35 #[.int .i64 f, .int .u64 x] W fun e w' => e = .returned (.agg #[.int .i64 ka, .bool na, .int .i64 ea, .int .u64 A]) ∧ Below W.heap.size W w')
    (hUb : ∀ W, Calls Tryd.prog 35 #[.int .i64 f, .int .u64 y] W fun e w' => e = .returned (.agg #[.int .i64 kb, .bool nb, .int .i64 eb, .int .u64 B]) ∧ Below W.heap.size W w') :
    Calls Tryd.prog 12 #[.int .i64 f, .int .i64 mode, .int .u64 x, .int .u64 y] w fun e w' => e = .returned (.tuple #[.int .u64 x, .int .i64 0]) ∧ Below w.heap.size w w' := by
  have hA1 := hA0 _ _ (lu_two x y w w.heap.size rfl)
  have hN1 := hN0 _ _ (lu_two x y (w.alloc (.cells #[.int .u64 x, .int .u64 y] 22)) (w.heap.size + 1) (by simp))
  clear hA0 hN0
  rcases h with ⟨rfl, rfl | rfl⟩ | ⟨rfl, rfl, rfl⟩
  all_goals
    have n0 : (na == na) = true := by simp
    go_enter Tryd.func12, Tryd.ntmps12
    go_wp2_with (first | (go_at_call 33; refine hA1.mono ?_; rintro e w' ⟨rfl, hw⟩; obtain rfl := hw.symm) | (go_at_call 34; refine hN1.mono ?_; rintro e w1 ⟨rfl, hb1⟩) | (go_at_call 35; with_reducible refine (hUa _).mono ?_; rintro e w2 ⟨rfl, hb2⟩) | (go_at_call 35; with_reducible refine (hUb _).mono ?_; rintro e w3 ⟨rfl, hb3⟩))
    go_ret2
    exact ⟨rfl, (bstep (bstep (bstep (below_two _ _) hb1) hb2) hb3).trans ((below_two _ _).mono (bstep (bstep (bstep (below_two _ _) hb1) hb2) hb3).size)⟩

set_option maxHeartbeats 2000000 in
theorem sadd_y (f mode x y ka kb ea eb A B pl hl : Int) (na nb : Bool) (w : World) (h : (ka = 0 ∨ ka = 1) ∧ kb = 2)
    (hA0 : ∀ W v, Lu W v 2 (fun k => if k = 0 then x else y) → Calls Tryd.prog 33 #[.int .i64 f, .int .i64 mode, v] W fun e w' => e = .returned (.bool true) ∧ w' = W)
    (hN0 : ∀ W v, Lu W v 2 (fun k => if k = 0 then x else y) → Calls Tryd.prog 34 #[.int .i64 f, v] W fun e w' => e = .returned (.tuple #[.int .u64 pl, .int .i64 hl, .bool false]) ∧ Below W.heap.size W w')
    (hUa : ∀ W, Calls Tryd.prog 35 #[.int .i64 f, .int .u64 x] W fun e w' => e = .returned (.agg #[.int .i64 ka, .bool na, .int .i64 ea, .int .u64 A]) ∧ Below W.heap.size W w')
    (hUb : ∀ W, Calls Tryd.prog 35 #[.int .i64 f, .int .u64 y] W fun e w' => e = .returned (.agg #[.int .i64 kb, .bool nb, .int .i64 eb, .int .u64 B]) ∧ Below W.heap.size W w') :
    Calls Tryd.prog 12 #[.int .i64 f, .int .i64 mode, .int .u64 x, .int .u64 y] w fun e w' => e = .returned (.tuple #[.int .u64 y, .int .i64 0]) ∧ Below w.heap.size w w' := by
  have hA1 := hA0 _ _ (lu_two x y w w.heap.size rfl)
  have hN1 := hN0 _ _ (lu_two x y (w.alloc (.cells #[.int .u64 x, .int .u64 y] 22)) (w.heap.size + 1) (by simp))
  clear hA0 hN0
  rcases h with ⟨rfl | rfl, rfl⟩
  all_goals
    have n0 : (na == na) = true := by simp
    go_enter Tryd.func12, Tryd.ntmps12
    go_wp2_with (first | (go_at_call 33; refine hA1.mono ?_; rintro e w' ⟨rfl, hw⟩; obtain rfl := hw.symm) | (go_at_call 34; refine hN1.mono ?_; rintro e w1 ⟨rfl, hb1⟩) | (go_at_call 35; with_reducible refine (hUa _).mono ?_; rintro e w2 ⟨rfl, hb2⟩) | (go_at_call 35; with_reducible refine (hUb _).mono ?_; rintro e w3 ⟨rfl, hb3⟩))
    go_ret2
    exact ⟨rfl, (bstep (bstep (bstep (below_two _ _) hb1) hb2) hb3).trans ((below_two _ _).mono (bstep (bstep (bstep (below_two _ _) hb1) hb2) hb3).size)⟩

set_option maxHeartbeats 2000000 in
theorem sadd_n (f mode x y ka kb ea eb A B pl hl : Int) (na nb : Bool) (w : World) (h : ka = 2 ∧ kb = 2 ∧ (na == nb) = false)
    (hA0 : ∀ W v, Lu W v 2 (fun k => if k = 0 then x else y) → Calls Tryd.prog 33 #[.int .i64 f, .int .i64 mode, v] W fun e w' => e = .returned (.bool true) ∧ w' = W)
    (hN0 : ∀ W v, Lu W v 2 (fun k => if k = 0 then x else y) → Calls Tryd.prog 34 #[.int .i64 f, v] W fun e w' => e = .returned (.tuple #[.int .u64 pl, .int .i64 hl, .bool false]) ∧ Below W.heap.size W w')
    (hUa : ∀ W, Calls Tryd.prog 35 #[.int .i64 f, .int .u64 x] W fun e w' => e = .returned (.agg #[.int .i64 ka, .bool na, .int .i64 ea, .int .u64 A]) ∧ Below W.heap.size W w')
    (hUb : ∀ W, Calls Tryd.prog 35 #[.int .i64 f, .int .u64 y] W fun e w' => e = .returned (.agg #[.int .i64 kb, .bool nb, .int .i64 eb, .int .u64 B]) ∧ Below W.heap.size W w') (P : Int) (hP : ∀ w, Calls Tryd.prog 27 #[.int .i64 f] w fun e w' => e = .returned (.int .u64 P) ∧ w' = w) :
    Calls Tryd.prog 12 #[.int .i64 f, .int .i64 mode, .int .u64 x, .int .u64 y] w fun e w' => e = .returned (.tuple #[.int .u64 P, .int .i64 16]) ∧ Below w.heap.size w w' := by
  have hA1 := hA0 _ _ (lu_two x y w w.heap.size rfl)
  have hN1 := hN0 _ _ (lu_two x y (w.alloc (.cells #[.int .u64 x, .int .u64 y] 22)) (w.heap.size + 1) (by simp))
  clear hA0 hN0
  obtain ⟨rfl, rfl, n1⟩ := h
  all_goals
    have n0 : (na == na) = true := by simp
    go_enter Tryd.func12, Tryd.ntmps12
    go_wp2_with (first | (go_at_call 33; refine hA1.mono ?_; rintro e w' ⟨rfl, hw⟩; obtain rfl := hw.symm) | (go_at_call 34; refine hN1.mono ?_; rintro e w1 ⟨rfl, hb1⟩) | (go_at_call 35; with_reducible refine (hUa _).mono ?_; rintro e w2 ⟨rfl, hb2⟩) | (go_at_call 35; with_reducible refine (hUb _).mono ?_; rintro e w3 ⟨rfl, hb3⟩) | (go_at_call 27; refine (hP _).mono ?_; rintro e w' ⟨rfl, hw⟩; obtain rfl := hw.symm))
    go_ret2
    exact ⟨rfl, (bstep (bstep (bstep (below_two _ _) hb1) hb2) hb3).trans ((below_two _ _).mono (bstep (bstep (bstep (below_two _ _) hb1) hb2) hb3).size)⟩

end Go.Proofs.YtfodpnbhcdkmnaaDoor
