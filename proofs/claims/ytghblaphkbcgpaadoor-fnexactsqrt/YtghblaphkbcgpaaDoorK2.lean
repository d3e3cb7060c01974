/- Pack on both sides. -/
import Derived.Test.YtghblaphkbcgpaaDoorK1
import Derived.Test.YtghblaphkbcgpaaDoorR2
namespace Go.Proofs.YtghblaphkbcgpaaDoor
open Go.RowKit

set_option maxRecDepth 100000 in
theorem in_yes (x a b : Int) (h0 : a ≤ x) (h1 : x ≤ b) (w : World) : Calls Tryd.prog 48 #[.int .i64 x, .int .i64 a, .int .i64 b] w fun e w' => e = .returned (.bool true) ∧ w' = w := by
  go_enter Tryd.func48, Tryd.ntmps48
  go_wp2
  go_ret
  exact ⟨rfl, rfl⟩

set_option maxRecDepth 100000 in
theorem in_no (x a b : Int) (h : x < a ∨ b < x) (w : World) : Calls Tryd.prog 48 #[.int .i64 x, .int .i64 a, .int .i64 b] w fun e w' => e = .returned (.bool false) ∧ w' = w := by
  by_cases h0 : a ≤ x
  · have h1 : ¬ x ≤ b := by omega
    have e : decide (x ≤ b) = false := by simpa using h1
    clear h
    go_enter Tryd.func48, Tryd.ntmps48
    go_wp2
    go_ret
    exact ⟨by simp, rfl⟩
  · clear h
    go_enter Tryd.func48, Tryd.ntmps48
    go_wp2
    go_ret
    exact ⟨rfl, rfl⟩

set_option maxRecDepth 100000 in
theorem mode_yes (mode : Int) (h0 : 1 ≤ mode) (h1 : mode ≤ 5) (w : World) : Calls Tryd.prog 19 #[.int .i64 mode] w fun e w' => e = .returned (.bool true) ∧ w' = w := by
  go_enter Tryd.func19, Tryd.ntmps19
  go_wp2_with (go_at_call 48; refine (in_yes mode 1 5 h0 h1 _).mono ?_; rintro e w' ⟨rfl, rfl⟩)
  go_ret
  exact ⟨rfl, rfl⟩

set_option maxRecDepth 100000 in
theorem mode_no (mode : Int) (h : mode < 1 ∨ 5 < mode) (w : World) : Calls Tryd.prog 19 #[.int .i64 mode] w fun e w' => e = .returned (.bool false) ∧ w' = w := by
  have hn := fun w => in_no mode 1 5 h w
  clear h
  go_enter Tryd.func19, Tryd.ntmps19
  go_wp2_with (go_at_call 48; refine (hn _).mono ?_; rintro e w' ⟨rfl, rfl⟩)
  go_ret
  exact ⟨rfl, rfl⟩

/-- What the model's Pack has laid: the number. -/
structure L4 (B : Nat) (K E M : Int) (n : Bool) (w W : World) : Prop where
  b0 : W.cell? ⟨B, 0, none⟩ = some (.int .i64 K)
  b1 : W.cell? ⟨B, 1, none⟩ = some (.bool n)
  b2 : W.cell? ⟨B, 2, none⟩ = some (.int .i64 E)
  b3 : W.cell? ⟨B, 3, none⟩ = some (.int .u64 M)
  bl : Below B w W

theorem L4.step {B : Nat} {K E M : Int} {n : Bool} {w W V : World} (h : L4 B K E M n w W) (hb : Below W.heap.size W V) : L4 B K E M n w V := by
  have hl : B < W.heap.size := World.block_lt_of_cell? W _ h.b0
  have c : ∀ o, V.cell? ⟨B, o, none⟩ = W.cell? ⟨B, o, none⟩ := fun o => hb.cell (p := ⟨B, o, none⟩) hl
  exact ⟨(c _).trans h.b0, (c _).trans h.b1, (c _).trans h.b2, (c _).trans h.b3, h.bl.trans (hb.mono (by omega))⟩

theorem l4_start (w : World) (K E M : Int) (n : Bool) : L4 w.heap.size K E M n w (w.alloc (Obj.cells #[.int .i64 K, .bool n, .int .i64 E, .int .u64 M] 31)) := by
  refine ⟨?_, ?_, ?_, ?_, below_one _⟩ <;> simp

end Go.Proofs.YtghblaphkbcgpaaDoor
