/- The program's settleNum and Mul. -/
import Derived.Test.YtcpnmcfpnhokgaaDoorM1
import Derived.Test.YtcpnmcfpnhokgaaDoorZ2
import Derived.Test.YtcpnmcfpnhokgaaDoorJ1
import Derived.Test.YtcpnmcfpnhokgaaDoorHW2
namespace Go.Proofs.YtcpnmcfpnhokgaaDoor
open Go.RowKit

theorem cells4_below {w W : World} {a b c d : Value} {t : TypeId} (hb : Below (w.alloc (Obj.cells #[a, b, c, d] t)).heap.size (w.alloc (Obj.cells #[a, b, c, d] t)) W) :
    W.cell? ⟨w.heap.size, 0, none⟩ = some a ∧ Below w.heap.size w W := by
  refine ⟨?_, (below_one _).trans (hb.mono (below_one _).size)⟩
  rw [hb.cell (p := ⟨w.heap.size, 0, none⟩) (by simp)]
  simp

set_option maxRecDepth 100000 in
set_option maxHeartbeats 1000000 in
theorem settle_with (f mode K E M V F : Int) (n : Bool) (w : World)
    (hP : Calls Tryd.prog 42 #[.int .i64 f, .int .i64 mode, .agg #[.int .i64 K, .bool n, .int .i64 E, .int .u64 M]] (w.alloc (Obj.cells #[.int .i64 K, .bool n, .int .i64 E, .int .u64 M] 30)) fun e w' => e = .returned (.tuple #[.int .u64 V, .int .i64 F]) ∧ Below (w.alloc (Obj.cells #[.int .i64 K, .bool n, .int .i64 E, .int .u64 M] 30)).heap.size (w.alloc (Obj.cells #[.int .i64 K, .bool n, .int .i64 E, .int .u64 M] 30)) w') :
    Calls Tryd.prog 25 #[.int .i64 f, .int .i64 mode, .agg #[.int .i64 K, .bool n, .int .i64 E, .int .u64 M]] w fun e w' => e = .returned (.tuple #[.int .u64 V, .int .i64 (if K = 3 then 16 else F)]) ∧ Below w.heap.size w w' := by
  by_cases hK : K = 3
  · subst hK
    rw [if_pos rfl]
    go_enter Tryd.func25, Tryd.ntmps25
    go_wp2_with (go_at_call 42; refine hP.mono ?_; rintro e w1 ⟨rfl, hb⟩; obtain ⟨d0, hb'⟩ := cells4_below hb)
    go_ret2
    exact ⟨rfl, hb'⟩
  · have k3 : (K == 3) = false := by simpa using hK
    rw [if_neg hK]
    clear hK
    go_enter Tryd.func25, Tryd.ntmps25
    go_wp2_with (go_at_call 42; refine hP.mono ?_; rintro e w1 ⟨rfl, hb⟩; obtain ⟨d0, hb'⟩ := cells4_below hb)
    go_ret2
    exact ⟨rfl, hb'⟩

theorem settle_any {f wd p t S D h q : Int} (hF : Frm f wd p t S D h q) (mode K E : Int) (n : Bool) (M : Nat) (w : World) (hs : Shp w) (h1 : K = 1 → 0 < M ∧ M < 18446744073709551616 ∧ -100000 ≤ E ∧ E ≤ 100000) :
    Calls Tryd.prog 25 #[.int .i64 f, .int .i64 mode, .agg #[.int .i64 K, .bool n, .int .i64 E, .int .u64 (M : Int)]] w fun e w' => e = .returned (.tuple #[.int .u64 (pkV p t h S mode K E n M), .int .i64 (if K = 3 then 16 else pkF p t h mode K E n M)]) ∧ Below w.heap.size w w' :=
  settle_with f mode K E M _ _ n w (packNum_any hF mode K E n M _ (shp_below hs (shp_pos hs) (below_one _)) h1)

set_option maxRecDepth 100000 in
/-- The program's Mul where the early answer is one. -/
theorem imul_early (f mode x y V F : Int) (w : World)
    (hE : Calls Tryd.prog 24 #[.int .i64 f, .int .i64 mode, .slice (some ⟨w.heap.size, 0, none⟩) 2 2] (w.alloc (.cells #[.int .u64 x, .int .u64 y] 24)) fun e w' => e = .returned (.tuple #[.int .u64 V, .int .i64 F, .bool true]) ∧ Below (w.alloc (.cells #[.int .u64 x, .int .u64 y] 24)).heap.size (w.alloc (.cells #[.int .u64 x, .int .u64 y] 24)) w') :
    Calls Tryd.prog 9 #[.int .i64 f, .int .i64 mode, .int .u64 x, .int .u64 y] w fun e w' => e = .returned (.tuple #[.int .u64 V, .int .i64 F]) ∧ Below w.heap.size w w' := by
  go_enter Tryd.func9, Tryd.ntmps9
  go_wp2_with (go_at_call 24; refine hE.mono ?_; rintro e w1 ⟨rfl, hb⟩)
  go_ret2
  exact ⟨rfl, bstep (below_one _) hb⟩

set_option maxRecDepth 100000 in
set_option maxHeartbeats 1000000 in
theorem imul_on (f mode x y V F : Int) (va vb vm vn : Value) (w : World) (hs : Shp w) (hj : Brj w)
    (hE : Calls Tryd.prog 24 #[.int .i64 f, .int .i64 mode, .slice (some ⟨w.heap.size, 0, none⟩) 2 2] (w.alloc (.cells #[.int .u64 x, .int .u64 y] 24)) fun e w' => e = .returned (.tuple #[.int .u64 0, .int .i64 0, .bool false]) ∧ Below (w.alloc (.cells #[.int .u64 x, .int .u64 y] 24)).heap.size (w.alloc (.cells #[.int .u64 x, .int .u64 y] 24)) w')
    (hUa : ∀ W, Shp W → Brj W → Calls Tryd.prog 11 #[.int .i64 f, .int .u64 x] W fun e w' => e = .returned va ∧ Below W.heap.size W w')
    (hUb : ∀ W, Shp W → Brj W → Calls Tryd.prog 11 #[.int .i64 f, .int .u64 y] W fun e w' => e = .returned vb ∧ Below W.heap.size W w')
    (hM : ∀ W, Calls Tryd.prog 28 #[va, vb] W fun e w' => e = .returned vm ∧ Below W.heap.size W w')
    (hN : ∀ W, Calls Tryd.prog 27 #[vm] W fun e w' => e = .returned vn ∧ Below W.heap.size W w')
    (hS : ∀ W, Shp W → Calls Tryd.prog 25 #[.int .i64 f, .int .i64 mode, vn] W fun e w' => e = .returned (.tuple #[.int .u64 V, .int .i64 F]) ∧ Below W.heap.size W w') :
    Calls Tryd.prog 9 #[.int .i64 f, .int .i64 mode, .int .u64 x, .int .u64 y] w fun e w' => e = .returned (.tuple #[.int .u64 V, .int .i64 F]) ∧ Below w.heap.size w w' := by
  have kS : ∀ W, Below w.heap.size w W → Shp W := fun W hb => shp_below hs (shp_pos hs) hb
  have kJ : ∀ W, Below w.heap.size w W → Brj W := fun W hb => hj.below hb
  clear hs hj
  go_enter Tryd.func9, Tryd.ntmps9
  go_wp2_with (first | (go_at_call 24; refine hE.mono ?_; rintro e w1 ⟨rfl, hb1⟩; have b1 := bstep (below_one _) hb1; have s1 := kS _ b1; have j1 := kJ _ b1) | (go_at_call 11; with_reducible refine (hUa _ s1 j1).mono ?_; rintro e w2 ⟨rfl, hb2⟩; have b2 := bstep b1 hb2; have s2 := kS _ b2; have j2 := kJ _ b2) | (go_at_call 11; with_reducible refine (hUb _ s2 j2).mono ?_; rintro e w3 ⟨rfl, hb3⟩; have b3 := bstep b2 hb3) | (go_at_call 28; refine (hM _).mono ?_; rintro e w4 ⟨rfl, hb4⟩; have b4 := bstep b3 hb4) | (go_at_call 27; refine (hN _).mono ?_; rintro e w5 ⟨rfl, hb5⟩; have b5 := bstep b4 hb5) | (go_at_call 25; refine (hS _ (kS _ b5)).mono ?_; rintro e w6 ⟨rfl, hb6⟩; have b6 := bstep b5 hb6))
  go_ret2
  exact ⟨rfl, b6⟩
end Go.Proofs.YtcpnmcfpnhokgaaDoor

/- The model's Mul at its other ends: wrong arguments, NaNs, infinities and 0. -/
namespace Go.Proofs.YtcpnmcfpnhokgaaDoor
open Go.RowKit

theorem lu_two (x y : Int) (W : World) (C : Nat) (hC : W.heap.size = C) : Lu (W.alloc (.cells #[.int .u64 x, .int .u64 y] 24)) (.slice (some ⟨C, 0, none⟩) 2 2) 2 (fun k => if k = 0 then x else y) := by
  subst hC
  refine ⟨W.heap.size, 2, rfl, by simp, fun k hk => ?_⟩
  match k, hk with
  | 0, _ => simp
  | 1, _ => simp

set_option maxRecDepth 100000 in
theorem smul_bad (f mode x y : Int) (w : World)
    (hA0 : ∀ W v, Lu W v 2 (fun k => if k = 0 then x else y) → Calls Tryd.prog 29 #[.int .i64 f, .int .i64 mode, v] W fun e w' => e = .returned (.bool false) ∧ w' = W) :
    Calls Tryd.prog 18 #[.int .i64 f, .int .i64 mode, .int .u64 x, .int .u64 y] w fun e w' => e = .returned (.tuple #[.int .u64 0, .int .i64 0]) ∧ Below w.heap.size w w' := by
  have hA1 := hA0 _ _ (lu_two x y w w.heap.size rfl)
  clear hA0
  go_enter Tryd.func18, Tryd.ntmps18
  go_wp2_with (go_at_call 29; refine hA1.mono ?_; rintro e w' ⟨rfl, hw⟩; obtain rfl := hw.symm)
  go_ret2
  exact ⟨rfl, below_one _⟩

set_option maxRecDepth 100000 in
theorem smul_nan (f mode x y pl fl : Int) (w : World)
    (hA0 : ∀ W v, Lu W v 2 (fun k => if k = 0 then x else y) → Calls Tryd.prog 29 #[.int .i64 f, .int .i64 mode, v] W fun e w' => e = .returned (.bool true) ∧ w' = W)
    (hN0 : ∀ W v, Lu W v 2 (fun k => if k = 0 then x else y) → Calls Tryd.prog 30 #[.int .i64 f, v] W fun e w' => e = .returned (.tuple #[.int .u64 pl, .int .i64 fl, .bool true]) ∧ Below W.heap.size W w') :
    Calls Tryd.prog 18 #[.int .i64 f, .int .i64 mode, .int .u64 x, .int .u64 y] w fun e w' => e = .returned (.tuple #[.int .u64 pl, .int .i64 fl]) ∧ Below w.heap.size w w' := by
  have hA1 := hA0 _ _ (lu_two x y w w.heap.size rfl)
  have hN1 := hN0 _ _ (lu_two x y (w.alloc (.cells #[.int .u64 x, .int .u64 y] 24)) (w.heap.size + 1) (by simp))
  clear hA0 hN0
  go_enter Tryd.func18, Tryd.ntmps18
  go_wp2_with (first | (go_at_call 29; refine hA1.mono ?_; rintro e w' ⟨rfl, hw⟩; obtain rfl := hw.symm) | (go_at_call 30; refine hN1.mono ?_; rintro e w1 ⟨rfl, hb1⟩))
  go_ret2
  exact ⟨rfl, bstep (below_two _ _) hb1⟩

set_option maxRecDepth 100000 in
set_option maxHeartbeats 2000000 in
theorem smul_no {f wd p t S D h q : Int} (hF : Frm f wd p t S D h q) (mode x y ka kb ea eb A B pl hl : Int) (na nb : Bool) (w : World) (ha : ka = 0 ∨ ka = 1 ∨ ka = 2) (hb : kb = 0 ∨ kb = 1 ∨ kb = 2) (hno : ¬ (ka = 1 ∧ kb = 1))
    (hA0 : ∀ W v, Lu W v 2 (fun k => if k = 0 then x else y) → Calls Tryd.prog 29 #[.int .i64 f, .int .i64 mode, v] W fun e w' => e = .returned (.bool true) ∧ w' = W)
    (hN0 : ∀ W v, Lu W v 2 (fun k => if k = 0 then x else y) → Calls Tryd.prog 30 #[.int .i64 f, v] W fun e w' => e = .returned (.tuple #[.int .u64 pl, .int .i64 hl, .bool false]) ∧ Below W.heap.size W w')
    (hUa : ∀ W, Calls Tryd.prog 12 #[.int .i64 f, .int .u64 x] W fun e w' => e = .returned (.agg #[.int .i64 ka, .bool na, .int .i64 ea, .int .u64 A]) ∧ Below W.heap.size W w')
    (hUb : ∀ W, Calls Tryd.prog 12 #[.int .i64 f, .int .u64 y] W fun e w' => e = .returned (.agg #[.int .i64 kb, .bool nb, .int .i64 eb, .int .u64 B]) ∧ Below W.heap.size W w') :
    Calls Tryd.prog 18 #[.int .i64 f, .int .i64 mode, .int .u64 x, .int .u64 y] w fun e w' => e = .returned (.tuple #[.int .u64 (pkV p t h S mode (mulK ka kb) 0 (mulN ka kb (na != nb)) 0), .int .i64 (if mulK ka kb = 3 then 16 else pkF p t h mode (mulK ka kb) 0 (mulN ka kb (na != nb)) 0)]) ∧ Below w.heap.size w w' := by
  have hA1 := hA0 _ _ (lu_two x y w w.heap.size rfl)
  have hN1 := hN0 _ _ (lu_two x y (w.alloc (.cells #[.int .u64 x, .int .u64 y] 24)) (w.heap.size + 1) (by simp))
  have hP := fun w => l1Plain_any hF w
  obtain ⟨G, hG0⟩ : ∃ G : Bool → Int, ∀ n, (if n then S else 0) = G n := ⟨fun n => if n then S else 0, fun _ => rfl⟩
  have hI : ∀ n w, Calls Tryd.prog 43 #[.int .i64 f, .bool n] w fun e w' => e = .returned (.int .u64 ((2 * t + 1) * h + G n)) ∧ w' = w := fun n w => by
    rw [← hG0 n]
    exact l1Inf_any hF n w
  have hG : ∀ n w, Calls Tryd.prog 44 #[.int .i64 f, .bool n] w fun e w' => e = .returned (.int .u64 (G n)) ∧ w' = w := fun n w => by
    rw [← hG0 n]
    exact l1Sign_any hF.form n w
  have HG0 : Hid _ := hG0
  clear hA0 hN0 hF hG0
  rcases ha with rfl | rfl | rfl <;> rcases hb with rfl | rfl | rfl
  case inr.inl.inr.inl => exact absurd ⟨rfl, rfl⟩ hno
  all_goals
    clear hno
    generalize hV : pkV _ _ _ _ _ _ _ _ _ = V
    generalize hFl : (if mulK _ _ = 3 then (16 : Int) else _) = Fl
    have HV : Hid _ := hV
    have HFl : Hid _ := hFl
    clear hV hFl
    go_enter Tryd.func18, Tryd.ntmps18
    go_wp2_with (first | (go_at_call 29; refine hA1.mono ?_; rintro e w' ⟨rfl, hw⟩; obtain rfl := hw.symm) | (go_at_call 30; refine hN1.mono ?_; rintro e w1 ⟨rfl, hb1⟩) | (go_at_call 12; with_reducible refine (hUa _).mono ?_; rintro e w2 ⟨rfl, hb2⟩) | (go_at_call 12; with_reducible refine (hUb _).mono ?_; rintro e w3 ⟨rfl, hb3⟩) | (go_at_call 31; refine (hP _).mono ?_; rintro e w' ⟨rfl, hw⟩; obtain rfl := hw.symm) | (go_at_call 43; refine (hI _ _).mono ?_; rintro e w' ⟨rfl, hw⟩; obtain rfl := hw.symm) | (go_at_call 44; refine (hG _ _).mono ?_; rintro e w' ⟨rfl, hw⟩; obtain rfl := hw.symm))
    go_ret2
    refine ⟨?_, (bstep (bstep (bstep (below_two _ _) hb1) hb2) hb3).trans ((below_two _ _).mono (bstep (bstep (bstep (below_two _ _) hb1) hb2) hb3).size)⟩
    have e0 := HG0.out
    rw [← HV.out, ← HFl.out]
    cases na <;> cases nb <;> simp [mulK, mulN, pkV, pkF, ← e0]
end Go.Proofs.YtcpnmcfpnhokgaaDoor
