/- The model's Mul at its other ends: wrong arguments, NaNs, infinities and 0. -/
import Derived.Test.YtfodpnbhcdkmnaaDoorM1
import Derived.Test.YtfodpnbhcdkmnaaDoorZ2
import Derived.Test.YtfodpnbhcdkmnaaDoorR1
namespace Go.Proofs.YtfodpnbhcdkmnaaDoor
open Go.RowKit

theorem lu_two (x y : Int) (W : World) (C : Nat) (hC : W.heap.size = C) : Lu (W.alloc (.cells #[.int .u64 x, .int .u64 y] 22)) (.slice (some ⟨C, 0, none⟩) 2 2) 2 (fun k => if k = 0 then x else y) := by
  subst hC
  refine ⟨W.heap.size, 2, rfl, by simp, fun k hk => ?_⟩
  match k, hk with
  | 0, _ => simp
  | 1, _ => simp

theorem smul_bad (f mode x y : Int) (w : World)
    (hA0 : ∀ W v, Lu W v 2 (fun k => if k = 0 then x else y) → Calls Tryd.prog 33 #[.int .i64 f, .int .i64 mode, v] W fun e w' => e = .returned (.bool false) ∧ w' = W) :
    Calls Tryd.prog 16 #[.int .i64 f, .int .i64 mode, .int .u64 x, .int .u64 y] w fun e w' => e = .returned (.tuple #[.int .u64 0, .int .i64 0]) ∧ Below w.heap.size w w' := by
  have hA1 := hA0 _ _ (lu_two x y w w.heap.size rfl)
  clear hA0
  go_enter Tryd.func16, Tryd.ntmps16
  go_wp2_with (go_at_call 33; refine hA1.mono ?_; rintro e w' ⟨rfl, hw⟩; obtain rfl := hw.symm)
  go_ret2
  exact ⟨rfl, below_one _⟩

theorem smul_nan (f mode x y pl fl : Int) (w : World)
    (hA0 : ∀ W v, Lu W v 2 (fun k => if k = 0 then x else y) → Calls Tryd.prog 33 #[.int .i64 f, .int .i64 mode, v] W fun e w' => e = .returned (.bool true) ∧ w' = W)
    (hN0 : ∀ W v, Lu W v 2 (fun k => if k = 0 then x else y) → Calls Tryd.prog 34 #[.int .i64 f, v] W fun e w' => e = .returned (.tuple #[.int .u64 pl, .int .i64 fl, .bool true]) ∧ Below W.heap.size W w') :
    Calls Tryd.prog 16 #[.int .i64 f, .int .i64 mode, .int .u64 x, .int .u64 y] w fun e w' => e = .returned (.tuple #[.int .u64 pl, .int .i64 fl]) ∧ Below w.heap.size w w' := by
  have hA1 := hA0 _ _ (lu_two x y w w.heap.size rfl)
  have hN1 := hN0 _ _ (lu_two x y (w.alloc (.cells #[.int .u64 x, .int .u64 y] 22)) (w.heap.size + 1) (by simp))
  clear hA0 hN0
  go_enter Tryd.func16, Tryd.ntmps16
  go_wp2_with (first | (go_at_call 33; refine hA1.mono ?_; rintro e w' ⟨rfl, hw⟩; obtain rfl := hw.symm) | (go_at_call 34; refine hN1.mono ?_; rintro e w1 ⟨rfl, hb1⟩))
  go_ret2
  exact ⟨rfl, bstep (below_two _ _) hb1⟩

set_option maxHeartbeats 2000000 in
theorem smul_no {f wd p t S D h q : Int} (hF : Frm f wd p t S D h q) (mode x y ka kb ea eb A B pl hl : Int) (na nb : Bool) (w : World) (ha : ka = 0 ∨ ka = 1 ∨ ka = 2) (hb : kb = 0 ∨ kb = 1 ∨ kb = 2) (hno : ¬ (ka = 1 ∧ kb = 1))
    (hA0 : ∀ W v, Lu W v 2 (fun k => if k = 0 then x else y) → Calls Tryd.prog 33 #[.int .i64 f, .int .i64 mode, v] W fun e w' => e = .returned (.bool true) ∧ w' = W)
    (hN0 : ∀ W v, Lu W v 2 (fun k => if k = 0 then x else y) → Calls Tryd.prog 34 #[.int .i64 f, v] W fun e w' => e = .returned (.tuple #[.int .u64 pl, .int .i64 hl, .bool false]) ∧ Below W.heap.size W w')
    (hUa : ∀ W, Calls Tryd.prog 35 #[.int .i64 f, .int .u64 x] W fun e w' => e = .returned (.agg #[.int .i64 ka, .bool na, .int .i64 ea, .int .u64 A]) ∧ Below W.heap.size W w')
    (hUb : ∀ W, Calls Tryd.prog 35 #[.int .i64 f, .int .u64 y] W fun e w' => e = .returned (.agg #[.int .i64 kb, .bool nb, .int .i64 eb, .int .u64 B]) ∧ Below W.heap.size W w') :
    Calls Tryd.prog 16 #[.int .i64 f, .int .i64 mode, .int .u64 x, .int .u64 y] w fun e w' => e = .returned (.tuple #[.int .u64 (pkV p t h S mode (mulK ka kb) 0 (mulN ka kb (na != nb)) 0), .int .i64 (if mulK ka kb = 3 then 16 else pkF p t h mode (mulK ka kb) 0 (mulN ka kb (na != nb)) 0)]) ∧ Below w.heap.size w w' := by
  have hA1 := hA0 _ _ (lu_two x y w w.heap.size rfl)
  have hN1 := hN0 _ _ (lu_two x y (w.alloc (.cells #[.int .u64 x, .int .u64 y] 22)) (w.heap.size + 1) (by simp))
  have hP := fun w => l1Plain_any hF w
  obtain ⟨G, hG0⟩ : ∃ G : Bool → Int, ∀ n, (if n then S else 0) = G n := ⟨fun n => if n then S else 0, fun _ => rfl⟩
  have hI : ∀ n w, Calls Tryd.prog 26 #[.int .i64 f, .bool n] w fun e w' => e = .returned (.int .u64 ((2 * t + 1) * h + G n)) ∧ w' = w := fun n w => by
    rw [← hG0 n]
    exact l1Inf_any hF n w
  have hG : ∀ n w, Calls Tryd.prog 25 #[.int .i64 f, .bool n] w fun e w' => e = .returned (.int .u64 (G n)) ∧ w' = w := fun n w => by
    rw [← hG0 n]
    exact l1Sign_any hF.form n w
  have HG0 : Hid _ := hG0
  clear hA0 hN0 hF hG0
  rcases ha with rfl | rfl | rfl <;> rcases hb with rfl | rfl | rfl
  case inr.inl.inr.inl => exact absurd ⟨rfl, rfl⟩ hno
  all_goals
    clear hno
    generalize hV : pkV _ _ _ _ _ _ _ _ _ = V
    generalize hFl : (if mulK _ _ = 3 then (16 : Int) else _) = Fl
    have HV : Hid _ := hV
    have HFl : Hid _ := hFl
    clear hV hFl
    go_enter Tryd.func16, Tryd.ntmps16
    go_wp2_with (first | (go_at_call 33; refine hA1.mono ?_; rintro e w' ⟨rfl, hw⟩; obtain rfl := hw.symm) | (go_at_call 34; refine hN1.mono ?_; rintro e w1 ⟨rfl, hb1⟩) | (go_at_call 35; with_reducible refine (hUa _).mono ?_; rintro e w2 ⟨rfl, hb2⟩) | (go_at_call 35; with_reducible refine (hUb _).mono ?_; rintro e w3 ⟨rfl, hb3⟩) | (go_at_call 27; refine (hP _).mono ?_; rintro e w' ⟨rfl, hw⟩; obtain rfl := hw.symm) | (go_at_call 26; refine (hI _ _).mono ?_; rintro e w' ⟨rfl, hw⟩; obtain rfl := hw.symm) | (go_at_call 25; refine (hG _ _).mono ?_; rintro e w' ⟨rfl, hw⟩; obtain rfl := hw.symm))
    go_ret2
    refine ⟨?_, (bstep (bstep (bstep (below_two _ _) hb1) hb2) hb3).trans ((below_two _ _).mono (bstep (bstep (bstep (below_two _ _) hb1) hb2) hb3).size)⟩
    have e0 := HG0.out
    rw [← HV.out, ← HFl.out]
    cases na <;> cases nb <;> simp [mulK, mulN, pkV, pkF, ← e0]
end Go.Proofs.YtfodpnbhcdkmnaaDoor
