/- The program's Next; both sides of Next; the law of Next. -/
import Derived.Test.YtghblaphkbcgpaaDoorN2
import Derived.Test.YtghblaphkbcgpaaDoorHJ0
import Derived.Test.YtghblaphkbcgpaaDoorP1
import Derived.RegionTactic
import Derived.Deep.RegionWith


/- The program's Pack of what Unpack tells: the very bits, without a flag. -/
namespace Go.Proofs.YtghblaphkbcgpaaDoor
open Go.RowKit

set_option maxHeartbeats 1000000 in
theorem packNum_zero {f wd p t S D h q : Int} (hF : Frm f wd p t S D h q) (mode E M : Int) (n : Bool) (w : World) (hs : Shp w) :
    Calls Tryd.prog 40 #[.int .i64 f, .int .i64 mode, .agg #[.int .i64 0, .bool n, .int .i64 E, .int .u64 M]] w fun e w' => e = .returned (.tuple #[.int .u64 (if n then S else 0), .int .i64 0]) ∧ Below w.heap.size w w' := by
  have hz := shp_pos hs
  have hG := fun w => signed_any hF n 0 w (by decide) (by rcases hF with ⟨_, _, _, _, rfl, _⟩ | ⟨_, _, _, _, rfl, _⟩ | ⟨_, _, _, _, rfl, _⟩ <;> decide)
  simp only [Int.zero_add] at hG
  obtain ⟨c0, c1, c2, c3, c4, c5, c6, c7, c8, c9, c10, c11⟩ := hs
  rcases hF with ⟨rfl, rfl, rfl, rfl, rfl, rfl, rfl, rfl⟩ | ⟨rfl, rfl, rfl, rfl, rfl, rfl, rfl, rfl⟩ | ⟨rfl, rfl, rfl, rfl, rfl, rfl, rfl, rfl⟩
  all_goals
    go_enter Tryd.func40, Tryd.ntmps40
    go_wp2_with (go_at_call 50; with_reducible refine (hG _).mono ?_; rintro e w' ⟨rfl, hb⟩)
    all_goals
      go_ret2
      exact ⟨rfl, (below_two _ _).trans (hb.mono (below_two _ _).size)⟩

set_option maxHeartbeats 2000000 in
theorem packNum_fin {f wd p t S D h q : Int} (hF : Frm f wd p t S D h q) (mode E M v : Int) (n : Bool) (w : World) (hs : Shp w)
    (hP : ∀ w, Calls Tryd.prog 51 #[.agg #[.int .i64 wd, .int .i64 p, .int .i64 t], .int .i64 mode, .agg #[.int .i64 1, .bool n, .int .i64 E, .int .u64 M]] w fun e w' => e = .returned (.tuple #[.int .u64 v, .int .i64 0]) ∧ Below w.heap.size w w') :
    Calls Tryd.prog 40 #[.int .i64 f, .int .i64 mode, .agg #[.int .i64 1, .bool n, .int .i64 E, .int .u64 M]] w fun e w' => e = .returned (.tuple #[.int .u64 v, .int .i64 0]) ∧ Below w.heap.size w w' := by
  have hz := shp_pos hs
  obtain ⟨c0, c1, c2, c3, c4, c5, c6, c7, c8, c9, c10, c11⟩ := hs
  rcases hF with ⟨rfl, rfl, rfl, rfl, rfl, rfl, rfl, rfl⟩ | ⟨rfl, rfl, rfl, rfl, rfl, rfl, rfl, rfl⟩ | ⟨rfl, rfl, rfl, rfl, rfl, rfl, rfl, rfl⟩
  all_goals
    go_enter Tryd.func40, Tryd.ntmps40
    go_wp2_with (go_at_call 51; with_reducible refine (hP _).mono ?_; rintro e w' ⟨rfl, hb⟩)
    go_ret2
    exact ⟨rfl, (below_two _ _).trans (hb.mono (below_two _ _).size)⟩

end Go.Proofs.YtghblaphkbcgpaaDoor

/- The program's packNum of an infinity. -/
namespace Go.Proofs.YtghblaphkbcgpaaDoor
open Go.RowKit

/-- What packNum has laid ahead of its answer. -/
def Laidp (B : Nat) (wd p t : Int) (n : Bool) (w W : World) : Prop :=
  W.cell? ⟨B + 1, 0, none⟩ = some (.int .i64 wd) ∧ W.cell? ⟨B + 1, 1, none⟩ = some (.int .i64 p) ∧ W.cell? ⟨B + 1, 2, none⟩ = some (.int .i64 t) ∧ W.cell? ⟨B, 1, none⟩ = some (.bool n) ∧ Below B w W

theorem laidp_two (w : World) (n : Bool) (E M wd p t : Int) : Laidp w.heap.size wd p t n w ((w.alloc (Obj.cells #[.int .i64 2, .bool n, .int .i64 E, .int .u64 M] 31)).alloc (Obj.cells #[.int .i64 wd, .int .i64 p, .int .i64 t] 58)) := by
  refine ⟨?_, ?_, ?_, ?_, below_two _ _⟩ <;> simp

set_option maxHeartbeats 3000000 in
theorem packNum_inf1 {f wd p t S D h q : Int} (hF : Frm f wd p t S D h q) (mode E M i v : Int) (n : Bool) (w : World) (hs : Shp w) (hz : 0 < w.heap.size)
    (hI : ∀ W, Laidp w.heap.size wd p t n w W → Calls Tryd.prog 46 #[.agg #[.int .i64 wd, .int .i64 p, .int .i64 t]] W.drew fun e w' => e = .returned (.int .u64 i) ∧ Laidp w.heap.size wd p t n w w')
    (hG : ∀ W, Below w.heap.size w W → Calls Tryd.prog 50 #[.agg #[.int .i64 wd, .int .i64 p, .int .i64 t], .bool n, .int .u64 i] W fun e w' => e = .returned (.int .u64 v) ∧ Below w.heap.size w w') :
    Calls Tryd.prog 40 #[.int .i64 f, .int .i64 mode, .agg #[.int .i64 2, .bool n, .int .i64 E, .int .u64 M]] w fun e w' => e = .returned (.tuple #[.int .u64 v, .int .i64 0]) ∧ Below w.heap.size w w' := by
  obtain ⟨c0, c1, c2, c3, c4, c5, c6, c7, c8, c9, c10, c11⟩ := hs
  rcases hF with ⟨rfl, rfl, rfl, rfl, rfl, rfl, rfl, rfl⟩ | ⟨rfl, rfl, rfl, rfl, rfl, rfl, rfl, rfl⟩ | ⟨rfl, rfl, rfl, rfl, rfl, rfl, rfl, rfl⟩
  all_goals
    go_enter Tryd.func40, Tryd.ntmps40
    go_wp2
    clear c0 c1 c2 c3 c4 c5 c6 c7 c8 c9 c10 c11
    generalize hW : ((w.alloc _).alloc _) = W
    first
      | have hL : Laidp w.heap.size 16 11 15 n w W := by subst hW; exact laidp_two w n E M 16 11 15
      | have hL : Laidp w.heap.size 32 24 127 n w W := by subst hW; exact laidp_two w n E M 32 24 127
      | have hL : Laidp w.heap.size 64 53 1023 n w W := by subst hW; exact laidp_two w n E M 64 53 1023
    clear hW
    have hI1 := hI W hL
    clear hI
    obtain ⟨a1, a2, a3, a4, a5⟩ := hL
    generalize hB : w.heap.size = B at *
    have HB : Hid (w.heap.size = B) := hB
    clear hB
    go_region_with (first | (go_at_call 46; refine hI1.mono ?_; rintro e w' ⟨rfl, b1, b2, b3, b4, b5⟩) | (go_at_call 50; refine (hG _ (by assumption)).mono ?_; rintro e w'' ⟨rfl, hb⟩))
    all_goals
      go_wp2
      go_ret2
      refine ⟨rfl, ?_⟩
      rw [show w.heap.size = B from HB.out]
      exact hb
end Go.Proofs.YtghblaphkbcgpaaDoor
