/- The model's Fma at its ends. -/
import Derived.Test.YtfodpnbhcdkmnaaDoorM4
import Derived.Test.YtfodpnbhcdkmnaaDoorM6
namespace Go.Proofs.YtfodpnbhcdkmnaaDoor
open Go.RowKit

theorem lu_three (x y z : Int) (W : World) (C : Nat) (hC : W.heap.size = C) : Lu (W.alloc (.cells #[.int .u64 x, .int .u64 y, .int .u64 z] 22)) (.slice (some ⟨C, 0, none⟩) 3 3) 3 (fun k => if k = 0 then x else if k = 1 then y else z) := by
  subst hC
  refine ⟨W.heap.size, 3, rfl, by simp, fun k hk => ?_⟩
  match k, hk with
  | 0, _ => simp
  | 1, _ => simp
  | 2, _ => simp

theorem below_f {w w1 w2 w3 w4 : World} {o1 o2 o3 o4 o5 : Obj} (hb1 : Below ((w.alloc o1).alloc o2).heap.size ((w.alloc o1).alloc o2) w1) (hb2 : Below w1.heap.size w1 w2) (hb3 : Below w2.heap.size w2 w3) (hb4 : Below w3.heap.size w3 w4) : Below w.heap.size w (((w4.alloc o3).alloc o4).alloc o5) :=
  bstep (bstep (bstep (bstep (bstep (below_two _ _) hb1) hb2) hb3) hb4) (below_34 _ _ _)

theorem sfma_bad (f mode x y z : Int) (w : World)
    (hA0 : ∀ W v, Lu W v 3 (fun k => if k = 0 then x else if k = 1 then y else z) → Calls Tryd.prog 33 #[.int .i64 f, .int .i64 mode, v] W fun e w' => e = .returned (.bool false) ∧ w' = W) :
    Calls Tryd.prog 18 #[.int .i64 f, .int .i64 mode, .int .u64 x, .int .u64 y, .int .u64 z] w fun e w' => e = .returned (.tuple #[.int .u64 0, .int .i64 0]) ∧ Below w.heap.size w w' := by
  have hA1 := hA0 _ _ (lu_three x y z w w.heap.size rfl)
  clear hA0
  go_enter Tryd.func18, Tryd.ntmps18
  go_wp2_with (go_at_call 33; refine hA1.mono ?_; rintro e w' ⟨rfl, hw⟩; obtain rfl := hw.symm)
  go_ret2
  exact ⟨rfl, below_one _⟩

theorem sfma_nan (f mode x y z pl fl : Int) (w : World)
    (hA0 : ∀ W v, Lu W v 3 (fun k => if k = 0 then x else if k = 1 then y else z) → Calls Tryd.prog 33 #[.int .i64 f, .int .i64 mode, v] W fun e w' => e = .returned (.bool true) ∧ w' = W)
    (hN0 : ∀ W v, Lu W v 3 (fun k => if k = 0 then x else if k = 1 then y else z) → Calls Tryd.prog 34 #[.int .i64 f, v] W fun e w' => e = .returned (.tuple #[.int .u64 pl, .int .i64 fl, .bool true]) ∧ Below W.heap.size W w') :
    Calls Tryd.prog 18 #[.int .i64 f, .int .i64 mode, .int .u64 x, .int .u64 y, .int .u64 z] w fun e w' => e = .returned (.tuple #[.int .u64 pl, .int .i64 fl]) ∧ Below w.heap.size w w' := by
  have hA1 := hA0 _ _ (lu_three x y z w w.heap.size rfl)
  have hN1 := hN0 _ _ (lu_three x y z (w.alloc (.cells #[.int .u64 x, .int .u64 y, .int .u64 z] 22)) (w.heap.size + 1) (by simp))
  clear hA0 hN0
  go_enter Tryd.func18, Tryd.ntmps18
  go_wp2_with (first | (go_at_call 33; refine hA1.mono ?_; rintro e w' ⟨rfl, hw⟩; obtain rfl := hw.symm) | (go_at_call 34; refine hN1.mono ?_; rintro e w1 ⟨rfl, hb1⟩))
  go_ret2
  exact ⟨rfl, bstep (below_two _ _) hb1⟩

set_option maxHeartbeats 4000000 in
theorem sfma_p0 (f mode x y z ka kb kc ea eb ec A B C pl hl : Int) (na nb nc : Bool) (w : World) (h : (ka = 2 ∧ kb = 0) ∨ (ka = 0 ∧ kb = 2))
    (hA0 : ∀ W v, Lu W v 3 (fun k => if k = 0 then x else if k = 1 then y else z) → Calls Tryd.prog 33 #[.int .i64 f, .int .i64 mode, v] W fun e w' => e = .returned (.bool true) ∧ w' = W)
    (hN0 : ∀ W v, Lu W v 3 (fun k => if k = 0 then x else if k = 1 then y else z) → Calls Tryd.prog 34 #[.int .i64 f, v] W fun e w' => e = .returned (.tuple #[.int .u64 pl, .int .i64 hl, .bool false]) ∧ Below W.heap.size W w')
    (hUa : ∀ W, Calls Tryd.prog 35 #[.int .i64 f, .int .u64 x] W fun e w' => e = .returned (.agg #[.int .i64 ka, .bool na, .int .i64 ea, .int .u64 A]) ∧ Below W.heap.size W w')
    (hUb : ∀ W, Calls Tryd.prog 35 #[.int .i64 f, .int .u64 y] W fun e w' => e = .returned (.agg #[.int .i64 kb, .bool nb, .int .i64 eb, .int .u64 B]) ∧ Below W.heap.size W w')
    (hUc : ∀ W, Calls Tryd.prog 35 #[.int .i64 f, .int .u64 z] W fun e w' => e = .returned (.agg #[.int .i64 kc, .bool nc, .int .i64 ec, .int .u64 C]) ∧ Below W.heap.size W w')
    (P : Int) (hP : ∀ w, Calls Tryd.prog 27 #[.int .i64 f] w fun e w' => e = .returned (.int .u64 P) ∧ w' = w) :
    Calls Tryd.prog 18 #[.int .i64 f, .int .i64 mode, .int .u64 x, .int .u64 y, .int .u64 z] w fun e w' => e = .returned (.tuple #[.int .u64 P, .int .i64 16]) ∧ Below w.heap.size w w' := by
  have hA1 := hA0 _ _ (lu_three x y z w w.heap.size rfl)
  have hN1 := hN0 _ _ (lu_three x y z (w.alloc (.cells #[.int .u64 x, .int .u64 y, .int .u64 z] 22)) (w.heap.size + 1) (by simp))
  clear hA0 hN0
  rcases h with ⟨rfl, rfl⟩ | ⟨rfl, rfl⟩
  all_goals
    go_enter Tryd.func18, Tryd.ntmps18
    go_wp2_with (first | (go_at_call 33; refine hA1.mono ?_; rintro e w' ⟨rfl, hw⟩; obtain rfl := hw.symm) | (go_at_call 34; refine hN1.mono ?_; rintro e w1 ⟨rfl, hb1⟩) | (go_at_call 35; with_reducible refine (hUa _).mono ?_; rintro e w2 ⟨rfl, hb2⟩) | (go_at_call 35; with_reducible refine (hUb _).mono ?_; rintro e w3 ⟨rfl, hb3⟩) | (go_at_call 35; with_reducible refine (hUc _).mono ?_; rintro e w4 ⟨rfl, hb4⟩) | (go_at_call 27; refine (hP _).mono ?_; rintro e w' ⟨rfl, hw⟩; obtain rfl := hw.symm))
    go_ret2
    exact ⟨rfl, below_f hb1 hb2 hb3 hb4⟩

set_option maxHeartbeats 4000000 in
theorem sfma_p1 (f mode x y z ka kb kc ea eb ec A B C pl hl : Int) (na nb nc : Bool) (w : World) (h : (ka = 2 ∧ (kb = 1 ∨ kb = 2)) ∨ (ka = 1 ∧ kb = 2)) (hc : kc = 2) (hn : (nc == !(na == nb)) = false)
    (hA0 : ∀ W v, Lu W v 3 (fun k => if k = 0 then x else if k = 1 then y else z) → Calls Tryd.prog 33 #[.int .i64 f, .int .i64 mode, v] W fun e w' => e = .returned (.bool true) ∧ w' = W)
    (hN0 : ∀ W v, Lu W v 3 (fun k => if k = 0 then x else if k = 1 then y else z) → Calls Tryd.prog 34 #[.int .i64 f, v] W fun e w' => e = .returned (.tuple #[.int .u64 pl, .int .i64 hl, .bool false]) ∧ Below W.heap.size W w')
    (hUa : ∀ W, Calls Tryd.prog 35 #[.int .i64 f, .int .u64 x] W fun e w' => e = .returned (.agg #[.int .i64 ka, .bool na, .int .i64 ea, .int .u64 A]) ∧ Below W.heap.size W w')
    (hUb : ∀ W, Calls Tryd.prog 35 #[.int .i64 f, .int .u64 y] W fun e w' => e = .returned (.agg #[.int .i64 kb, .bool nb, .int .i64 eb, .int .u64 B]) ∧ Below W.heap.size W w')
    (hUc : ∀ W, Calls Tryd.prog 35 #[.int .i64 f, .int .u64 z] W fun e w' => e = .returned (.agg #[.int .i64 kc, .bool nc, .int .i64 ec, .int .u64 C]) ∧ Below W.heap.size W w')
    (P : Int) (hP : ∀ w, Calls Tryd.prog 27 #[.int .i64 f] w fun e w' => e = .returned (.int .u64 P) ∧ w' = w) :
    Calls Tryd.prog 18 #[.int .i64 f, .int .i64 mode, .int .u64 x, .int .u64 y, .int .u64 z] w fun e w' => e = .returned (.tuple #[.int .u64 P, .int .i64 16]) ∧ Below w.heap.size w w' := by
  have hA1 := hA0 _ _ (lu_three x y z w w.heap.size rfl)
  have hN1 := hN0 _ _ (lu_three x y z (w.alloc (.cells #[.int .u64 x, .int .u64 y, .int .u64 z] 22)) (w.heap.size + 1) (by simp))
  clear hA0 hN0
  subst hc
  rcases h with ⟨rfl, rfl | rfl⟩ | ⟨rfl, rfl⟩
  all_goals
    go_enter Tryd.func18, Tryd.ntmps18
    go_wp2_with (first | (go_at_call 33; refine hA1.mono ?_; rintro e w' ⟨rfl, hw⟩; obtain rfl := hw.symm) | (go_at_call 34; refine hN1.mono ?_; rintro e w1 ⟨rfl, hb1⟩) | (go_at_call 35; with_reducible refine (hUa _).mono ?_; rintro e w2 ⟨rfl, hb2⟩) | (go_at_call 35; with_reducible refine (hUb _).mono ?_; rintro e w3 ⟨rfl, hb3⟩) | (go_at_call 35; with_reducible refine (hUc _).mono ?_; rintro e w4 ⟨rfl, hb4⟩) | (go_at_call 27; refine (hP _).mono ?_; rintro e w' ⟨rfl, hw⟩; obtain rfl := hw.symm))
    go_ret2
    exact ⟨rfl, below_f hb1 hb2 hb3 hb4⟩

set_option maxHeartbeats 4000000 in
theorem sfma_i0 (f mode x y z ka kb kc ea eb ec A B C pl hl : Int) (na nb nc : Bool) (w : World) (h : (ka = 2 ∧ (kb = 1 ∨ kb = 2)) ∨ (ka = 1 ∧ kb = 2)) (hc : (kc == 2) = false)
    (hA0 : ∀ W v, Lu W v 3 (fun k => if k = 0 then x else if k = 1 then y else z) → Calls Tryd.prog 33 #[.int .i64 f, .int .i64 mode, v] W fun e w' => e = .returned (.bool true) ∧ w' = W)
    (hN0 : ∀ W v, Lu W v 3 (fun k => if k = 0 then x else if k = 1 then y else z) → Calls Tryd.prog 34 #[.int .i64 f, v] W fun e w' => e = .returned (.tuple #[.int .u64 pl, .int .i64 hl, .bool false]) ∧ Below W.heap.size W w')
    (hUa : ∀ W, Calls Tryd.prog 35 #[.int .i64 f, .int .u64 x] W fun e w' => e = .returned (.agg #[.int .i64 ka, .bool na, .int .i64 ea, .int .u64 A]) ∧ Below W.heap.size W w')
    (hUb : ∀ W, Calls Tryd.prog 35 #[.int .i64 f, .int .u64 y] W fun e w' => e = .returned (.agg #[.int .i64 kb, .bool nb, .int .i64 eb, .int .u64 B]) ∧ Below W.heap.size W w')
    (hUc : ∀ W, Calls Tryd.prog 35 #[.int .i64 f, .int .u64 z] W fun e w' => e = .returned (.agg #[.int .i64 kc, .bool nc, .int .i64 ec, .int .u64 C]) ∧ Below W.heap.size W w')
    (I : Int) (hI : ∀ w, Calls Tryd.prog 26 #[.int .i64 f, .bool (!(na == nb))] w fun e w' => e = .returned (.int .u64 I) ∧ w' = w) :
    Calls Tryd.prog 18 #[.int .i64 f, .int .i64 mode, .int .u64 x, .int .u64 y, .int .u64 z] w fun e w' => e = .returned (.tuple #[.int .u64 I, .int .i64 0]) ∧ Below w.heap.size w w' := by
  have hA1 := hA0 _ _ (lu_three x y z w w.heap.size rfl)
  have hN1 := hN0 _ _ (lu_three x y z (w.alloc (.cells #[.int .u64 x, .int .u64 y, .int .u64 z] 22)) (w.heap.size + 1) (by simp))
  clear hA0 hN0
  rcases h with ⟨rfl, rfl | rfl⟩ | ⟨rfl, rfl⟩
  all_goals
    go_enter Tryd.func18, Tryd.ntmps18
    go_wp2_with (first | (go_at_call 33; refine hA1.mono ?_; rintro e w' ⟨rfl, hw⟩; obtain rfl := hw.symm) | (go_at_call 34; refine hN1.mono ?_; rintro e w1 ⟨rfl, hb1⟩) | (go_at_call 35; with_reducible refine (hUa _).mono ?_; rintro e w2 ⟨rfl, hb2⟩) | (go_at_call 35; with_reducible refine (hUb _).mono ?_; rintro e w3 ⟨rfl, hb3⟩) | (go_at_call 35; with_reducible refine (hUc _).mono ?_; rintro e w4 ⟨rfl, hb4⟩) | (go_at_call 26; refine (hI _).mono ?_; rintro e w' ⟨rfl, hw⟩; obtain rfl := hw.symm))
    go_ret2
    exact ⟨rfl, below_f hb1 hb2 hb3 hb4⟩

set_option maxHeartbeats 4000000 in
theorem sfma_i1 (f mode x y z ka kb kc ea eb ec A B C pl hl : Int) (na nb nc : Bool) (w : World) (h : (ka = 2 ∧ (kb = 1 ∨ kb = 2)) ∨ (ka = 1 ∧ kb = 2)) (hc : kc = 2) (hn : (nc == !(na == nb)) = true)
    (hA0 : ∀ W v, Lu W v 3 (fun k => if k = 0 then x else if k = 1 then y else z) → Calls Tryd.prog 33 #[.int .i64 f, .int .i64 mode, v] W fun e w' => e = .returned (.bool true) ∧ w' = W)
    (hN0 : ∀ W v, Lu W v 3 (fun k => if k = 0 then x else if k = 1 then y else z) → Calls Tryd.prog 34 #[.int .i64 f, v] W fun e w' => e = .returned (.tuple #[.int .u64 pl, .int .i64 hl, .bool false]) ∧ Below W.heap.size W w')
    (hUa : ∀ W, Calls Tryd.prog 35 #[.int .i64 f, .int .u64 x] W fun e w' => e = .returned (.agg #[.int .i64 ka, .bool na, .int .i64 ea, .int .u64 A]) ∧ Below W.heap.size W w')
    (hUb : ∀ W, Calls Tryd.prog 35 #[.int .i64 f, .int .u64 y] W fun e w' => e = .returned (.agg #[.int .i64 kb, .bool nb, .int .i64 eb, .int .u64 B]) ∧ Below W.heap.size W w')
    (hUc : ∀ W, Calls Tryd.prog 35 #[.int .i64 f, .int .u64 z] W fun e w' => e = .returned (.agg #[.int .i64 kc, .bool nc, .int .i64 ec, .int .u64 C]) ∧ Below W.heap.size W w')
    (I : Int) (hI : ∀ w, Calls Tryd.prog 26 #[.int .i64 f, .bool (!(na == nb))] w fun e w' => e = .returned (.int .u64 I) ∧ w' = w) :
    Calls Tryd.prog 18 #[.int .i64 f, .int .i64 mode, .int .u64 x, .int .u64 y, .int .u64 z] w fun e w' => e = .returned (.tuple #[.int .u64 I, .int .i64 0]) ∧ Below w.heap.size w w' := by
  have hA1 := hA0 _ _ (lu_three x y z w w.heap.size rfl)
  have hN1 := hN0 _ _ (lu_three x y z (w.alloc (.cells #[.int .u64 x, .int .u64 y, .int .u64 z] 22)) (w.heap.size + 1) (by simp))
  clear hA0 hN0
  subst hc
  rcases h with ⟨rfl, rfl | rfl⟩ | ⟨rfl, rfl⟩
  all_goals
    go_enter Tryd.func18, Tryd.ntmps18
    go_wp2_with (first | (go_at_call 33; refine hA1.mono ?_; rintro e w' ⟨rfl, hw⟩; obtain rfl := hw.symm) | (go_at_call 34; refine hN1.mono ?_; rintro e w1 ⟨rfl, hb1⟩) | (go_at_call 35; with_reducible refine (hUa _).mono ?_; rintro e w2 ⟨rfl, hb2⟩) | (go_at_call 35; with_reducible refine (hUb _).mono ?_; rintro e w3 ⟨rfl, hb3⟩) | (go_at_call 35; with_reducible refine (hUc _).mono ?_; rintro e w4 ⟨rfl, hb4⟩) | (go_at_call 26; refine (hI _).mono ?_; rintro e w' ⟨rfl, hw⟩; obtain rfl := hw.symm))
    go_ret2
    exact ⟨rfl, below_f hb1 hb2 hb3 hb4⟩

set_option maxHeartbeats 4000000 in
theorem sfma_z (f mode x y z ka kb kc ea eb ec A B C pl hl : Int) (na nb nc : Bool) (w : World) (h : (ka == 2) = false) (h2 : (kb == 2) = false) (hc : kc = 2)
    (hA0 : ∀ W v, Lu W v 3 (fun k => if k = 0 then x else if k = 1 then y else z) → Calls Tryd.prog 33 #[.int .i64 f, .int .i64 mode, v] W fun e w' => e = .returned (.bool true) ∧ w' = W)
    (hN0 : ∀ W v, Lu W v 3 (fun k => if k = 0 then x else if k = 1 then y else z) → Calls Tryd.prog 34 #[.int .i64 f, v] W fun e w' => e = .returned (.tuple #[.int .u64 pl, .int .i64 hl, .bool false]) ∧ Below W.heap.size W w')
    (hUa : ∀ W, Calls Tryd.prog 35 #[.int .i64 f, .int .u64 x] W fun e w' => e = .returned (.agg #[.int .i64 ka, .bool na, .int .i64 ea, .int .u64 A]) ∧ Below W.heap.size W w')
    (hUb : ∀ W, Calls Tryd.prog 35 #[.int .i64 f, .int .u64 y] W fun e w' => e = .returned (.agg #[.int .i64 kb, .bool nb, .int .i64 eb, .int .u64 B]) ∧ Below W.heap.size W w')
    (hUc : ∀ W, Calls Tryd.prog 35 #[.int .i64 f, .int .u64 z] W fun e w' => e = .returned (.agg #[.int .i64 kc, .bool nc, .int .i64 ec, .int .u64 C]) ∧ Below W.heap.size W w') :
    Calls Tryd.prog 18 #[.int .i64 f, .int .i64 mode, .int .u64 x, .int .u64 y, .int .u64 z] w fun e w' => e = .returned (.tuple #[.int .u64 z, .int .i64 0]) ∧ Below w.heap.size w w' := by
  have hA1 := hA0 _ _ (lu_three x y z w w.heap.size rfl)
  have hN1 := hN0 _ _ (lu_three x y z (w.alloc (.cells #[.int .u64 x, .int .u64 y, .int .u64 z] 22)) (w.heap.size + 1) (by simp))
  clear hA0 hN0
  subst hc
  go_enter Tryd.func18, Tryd.ntmps18
  go_wp2_with (first | (go_at_call 33; refine hA1.mono ?_; rintro e w' ⟨rfl, hw⟩; obtain rfl := hw.symm) | (go_at_call 34; refine hN1.mono ?_; rintro e w1 ⟨rfl, hb1⟩) | (go_at_call 35; with_reducible refine (hUa _).mono ?_; rintro e w2 ⟨rfl, hb2⟩) | (go_at_call 35; with_reducible refine (hUb _).mono ?_; rintro e w3 ⟨rfl, hb3⟩) | (go_at_call 35; with_reducible refine (hUc _).mono ?_; rintro e w4 ⟨rfl, hb4⟩))
  go_ret2
  exact ⟨rfl, below_f hb1 hb2 hb3 hb4⟩

end Go.Proofs.YtfodpnbhcdkmnaaDoor
