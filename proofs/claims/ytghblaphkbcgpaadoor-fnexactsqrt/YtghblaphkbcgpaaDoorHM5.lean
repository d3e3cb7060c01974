/- The program's settleNum and Mul. -/
import Derived.Test.YtghblaphkbcgpaaDoorM1
import Derived.Test.YtghblaphkbcgpaaDoorZ2
import Derived.Test.YtghblaphkbcgpaaDoorJ1
import Derived.Test.YtghblaphkbcgpaaDoorHW2
namespace Go.Proofs.YtghblaphkbcgpaaDoor
open Go.RowKit

theorem cells4_below {w W : World} {a b c d : Value} {t : TypeId} (hb : Below (w.alloc (Obj.cells #[a, b, c, d] t)).heap.size (w.alloc (Obj.cells #[a, b, c, d] t)) W) :
    W.cell? ⟨w.heap.size, 0, none⟩ = some a ∧ Below w.heap.size w W := by
  refine ⟨?_, (below_one _).trans (hb.mono (below_one _).size)⟩
  rw [hb.cell (p := ⟨w.heap.size, 0, none⟩) (by simp)]
  simp

set_option maxRecDepth 100000 in
set_option maxHeartbeats 1000000 in
theorem settle_with (f mode K E M V F : Int) (n : Bool) (w : World)
    (hP : Calls Tryd.prog 40 #[.int .i64 f, .int .i64 mode, .agg #[.int .i64 K, .bool n, .int .i64 E, .int .u64 M]] (w.alloc (Obj.cells #[.int .i64 K, .bool n, .int .i64 E, .int .u64 M] 31)) fun e w' => e = .returned (.tuple #[.int .u64 V, .int .i64 F]) ∧ Below (w.alloc (Obj.cells #[.int .i64 K, .bool n, .int .i64 E, .int .u64 M] 31)).heap.size (w.alloc (Obj.cells #[.int .i64 K, .bool n, .int .i64 E, .int .u64 M] 31)) w') :
    Calls Tryd.prog 15 #[.int .i64 f, .int .i64 mode, .agg #[.int .i64 K, .bool n, .int .i64 E, .int .u64 M]] w fun e w' => e = .returned (.tuple #[.int .u64 V, .int .i64 (if K = 3 then 16 else F)]) ∧ Below w.heap.size w w' := by
  by_cases hK : K = 3
  · subst hK
    rw [if_pos rfl]
    go_enter Tryd.func15, Tryd.ntmps15
    go_wp2_with (go_at_call 40; refine hP.mono ?_; rintro e w1 ⟨rfl, hb⟩; obtain ⟨d0, hb'⟩ := cells4_below hb)
    go_ret2
    exact ⟨rfl, hb'⟩
  · have k3 : (K == 3) = false := by simpa using hK
    rw [if_neg hK]
    clear hK
    go_enter Tryd.func15, Tryd.ntmps15
    go_wp2_with (go_at_call 40; refine hP.mono ?_; rintro e w1 ⟨rfl, hb⟩; obtain ⟨d0, hb'⟩ := cells4_below hb)
    go_ret2
    exact ⟨rfl, hb'⟩

theorem settle_any {f wd p t S D h q : Int} (hF : Frm f wd p t S D h q) (mode K E : Int) (n : Bool) (M : Nat) (w : World) (hs : Shp w) (h1 : K = 1 → 0 < M ∧ M < 18446744073709551616 ∧ -100000 ≤ E ∧ E ≤ 100000) :
    Calls Tryd.prog 15 #[.int .i64 f, .int .i64 mode, .agg #[.int .i64 K, .bool n, .int .i64 E, .int .u64 (M : Int)]] w fun e w' => e = .returned (.tuple #[.int .u64 (pkV p t h S mode K E n M), .int .i64 (if K = 3 then 16 else pkF p t h mode K E n M)]) ∧ Below w.heap.size w w' :=
  settle_with f mode K E M _ _ n w (packNum_any hF mode K E n M _ (shp_below hs (shp_pos hs) (below_one _)) h1)

end Go.Proofs.YtghblaphkbcgpaaDoor

/- The model's Mul at its other ends: wrong arguments, NaNs, infinities and 0. -/
namespace Go.Proofs.YtghblaphkbcgpaaDoor
open Go.RowKit

theorem lu_two (x y : Int) (W : World) (C : Nat) (hC : W.heap.size = C) : Lu (W.alloc (.cells #[.int .u64 x, .int .u64 y] 22)) (.slice (some ⟨C, 0, none⟩) 2 2) 2 (fun k => if k = 0 then x else y) := by
  subst hC
  refine ⟨W.heap.size, 2, rfl, by simp, fun k hk => ?_⟩
  match k, hk with
  | 0, _ => simp
  | 1, _ => simp

end Go.Proofs.YtghblaphkbcgpaaDoor
