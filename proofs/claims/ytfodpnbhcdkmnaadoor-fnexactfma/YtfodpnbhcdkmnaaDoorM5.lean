/- The program's settleNum and Mul. -/
import Derived.Test.YtfodpnbhcdkmnaaDoorM1
import Derived.Test.YtfodpnbhcdkmnaaDoorZ2
import Derived.Test.YtfodpnbhcdkmnaaDoorJ1
namespace Go.Proofs.YtfodpnbhcdkmnaaDoor
open Go.RowKit

theorem cells4_below {w W : World} {a b c d : Value} {t : TypeId} (hb : Below (w.alloc (Obj.cells #[a, b, c, d] t)).heap.size (w.alloc (Obj.cells #[a, b, c, d] t)) W) :
    W.cell? ⟨w.heap.size, 0, none⟩ = some a ∧ Below w.heap.size w W := by
  refine ⟨?_, (below_one _).trans (hb.mono (below_one _).size)⟩
  rw [hb.cell (p := ⟨w.heap.size, 0, none⟩) (by simp)]
  simp

set_option maxHeartbeats 1000000 in
theorem settle_with (f mode K E M V F : Int) (n : Bool) (w : World)
    (hP : Calls Tryd.prog 32 #[.int .i64 f, .int .i64 mode, .agg #[.int .i64 K, .bool n, .int .i64 E, .int .u64 M]] (w.alloc (Obj.cells #[.int .i64 K, .bool n, .int .i64 E, .int .u64 M] 27)) fun e w' => e = .returned (.tuple #[.int .u64 V, .int .i64 F]) ∧ Below (w.alloc (Obj.cells #[.int .i64 K, .bool n, .int .i64 E, .int .u64 M] 27)).heap.size (w.alloc (Obj.cells #[.int .i64 K, .bool n, .int .i64 E, .int .u64 M] 27)) w') :
    Calls Tryd.prog 39 #[.int .i64 f, .int .i64 mode, .agg #[.int .i64 K, .bool n, .int .i64 E, .int .u64 M]] w fun e w' => e = .returned (.tuple #[.int .u64 V, .int .i64 (if K = 3 then 16 else F)]) ∧ Below w.heap.size w w' := by
  by_cases hK : K = 3
  · subst hK
    rw [if_pos rfl]
    go_enter Tryd.func39, Tryd.ntmps39
    go_wp2_with (go_at_call 32; refine hP.mono ?_; rintro e w1 ⟨rfl, hb⟩; obtain ⟨d0, hb'⟩ := cells4_below hb)
    go_ret2
    exact ⟨rfl, hb'⟩
  · have k3 : (K == 3) = false := by simpa using hK
    rw [if_neg hK]
    clear hK
    go_enter Tryd.func39, Tryd.ntmps39
    go_wp2_with (go_at_call 32; refine hP.mono ?_; rintro e w1 ⟨rfl, hb⟩; obtain ⟨d0, hb'⟩ := cells4_below hb)
    go_ret2
    exact ⟨rfl, hb'⟩

theorem settle_any {f wd p t S D h q : Int} (hF : Frm f wd p t S D h q) (mode K E : Int) (n : Bool) (M : Nat) (w : World) (hs : Shp w) (h1 : K = 1 → 0 < M ∧ M < 18446744073709551616 ∧ -100000 ≤ E ∧ E ≤ 100000) :
    Calls Tryd.prog 39 #[.int .i64 f, .int .i64 mode, .agg #[.int .i64 K, .bool n, .int .i64 E, .int .u64 (M : Int)]] w fun e w' => e = .returned (.tuple #[.int .u64 (pkV p t h S mode K E n M), .int .i64 (if K = 3 then 16 else pkF p t h mode K E n M)]) ∧ Below w.heap.size w w' :=
  settle_with f mode K E M _ _ n w (packNum_any hF mode K E n M _ (shp_below hs (shp_pos hs) (below_one _)) h1)

/-- The program's Mul where the early answer is one. -/
theorem imul_early (f mode x y V F : Int) (w : World)
    (hE : Calls Tryd.prog 37 #[.int .i64 f, .int .i64 mode, .slice (some ⟨w.heap.size, 0, none⟩) 2 2] (w.alloc (.cells #[.int .u64 x, .int .u64 y] 22)) fun e w' => e = .returned (.tuple #[.int .u64 V, .int .i64 F, .bool true]) ∧ Below (w.alloc (.cells #[.int .u64 x, .int .u64 y] 22)).heap.size (w.alloc (.cells #[.int .u64 x, .int .u64 y] 22)) w') :
    Calls Tryd.prog 17 #[.int .i64 f, .int .i64 mode, .int .u64 x, .int .u64 y] w fun e w' => e = .returned (.tuple #[.int .u64 V, .int .i64 F]) ∧ Below w.heap.size w w' := by
  go_enter Tryd.func17, Tryd.ntmps17
  go_wp2_with (go_at_call 37; refine hE.mono ?_; rintro e w1 ⟨rfl, hb⟩)
  go_ret2
  exact ⟨rfl, bstep (below_one _) hb⟩

set_option maxHeartbeats 1000000 in
theorem imul_on (f mode x y V F : Int) (va vb vm vn : Value) (w : World) (hs : Shp w) (hj : Brj w)
    (hE : Calls Tryd.prog 37 #[.int .i64 f, .int .i64 mode, .slice (some ⟨w.heap.size, 0, none⟩) 2 2] (w.alloc (.cells #[.int .u64 x, .int .u64 y] 22)) fun e w' => e = .returned (.tuple #[.int .u64 0, .int .i64 0, .bool false]) ∧ Below (w.alloc (.cells #[.int .u64 x, .int .u64 y] 22)).heap.size (w.alloc (.cells #[.int .u64 x, .int .u64 y] 22)) w')
    (hUa : ∀ W, Shp W → Brj W → Calls Tryd.prog 38 #[.int .i64 f, .int .u64 x] W fun e w' => e = .returned va ∧ Below W.heap.size W w')
    (hUb : ∀ W, Shp W → Brj W → Calls Tryd.prog 38 #[.int .i64 f, .int .u64 y] W fun e w' => e = .returned vb ∧ Below W.heap.size W w')
    (hM : ∀ W, Calls Tryd.prog 44 #[va, vb] W fun e w' => e = .returned vm ∧ Below W.heap.size W w')
    (hN : ∀ W, Calls Tryd.prog 41 #[vm] W fun e w' => e = .returned vn ∧ Below W.heap.size W w')
    (hS : ∀ W, Shp W → Calls Tryd.prog 39 #[.int .i64 f, .int .i64 mode, vn] W fun e w' => e = .returned (.tuple #[.int .u64 V, .int .i64 F]) ∧ Below W.heap.size W w') :
    Calls Tryd.prog 17 #[.int .i64 f, .int .i64 mode, .int .u64 x, .int .u64 y] w fun e w' => e = .returned (.tuple #[.int .u64 V, .int .i64 F]) ∧ Below w.heap.size w w' := by
  have kS : ∀ W, Below w.heap.size w W → Shp W := fun W hb => shp_below hs (shp_pos hs) hb
  have kJ : ∀ W, Below w.heap.size w W → Brj W := fun W hb => hj.below hb
  clear hs hj
  go_enter Tryd.func17, Tryd.ntmps17
  go_wp2_with (first | (go_at_call 37; refine hE.mono ?_; rintro e w1 ⟨rfl, hb1⟩; have b1 := bstep (below_one _) hb1; have s1 := kS _ b1; have j1 := kJ _ b1) | (go_at_call 38; with_reducible refine (hUa _ s1 j1).mono ?_; rintro e w2 ⟨rfl, hb2⟩; have b2 := bstep b1 hb2; have s2 := kS _ b2; have j2 := kJ _ b2) | (go_at_call 38; with_reducible refine (hUb _ s2 j2).mono ?_; rintro e w3 ⟨rfl, hb3⟩; have b3 := bstep b2 hb3) | (go_at_call 44; refine (hM _).mono ?_; rintro e w4 ⟨rfl, hb4⟩; have b4 := bstep b3 hb4) | (go_at_call 41; refine (hN _).mono ?_; rintro e w5 ⟨rfl, hb5⟩; have b5 := bstep b4 hb5) | (go_at_call 39; refine (hS _ (kS _ b5)).mono ?_; rintro e w6 ⟨rfl, hb6⟩; have b6 := bstep b5 hb6))
  go_ret2
  exact ⟨rfl, b6⟩
end Go.Proofs.YtfodpnbhcdkmnaaDoor
