/- Pack on both sides. -/
import Derived.Test.YtcpnmcfpnhokgaaDoorK1
import Derived.Test.YtcpnmcfpnhokgaaDoorR2
namespace Go.Proofs.YtcpnmcfpnhokgaaDoor
open Go.RowKit

set_option maxRecDepth 100000 in
theorem in_yes (x a b : Int) (h0 : a ≤ x) (h1 : x ≤ b) (w : World) : Calls Tryd.prog 93 #[.int .i64 x, .int .i64 a, .int .i64 b] w fun e w' => e = .returned (.bool true) ∧ w' = w := by
  go_enter Tryd.func93, Tryd.ntmps93
  go_wp2
  go_ret
  exact ⟨rfl, rfl⟩

set_option maxRecDepth 100000 in
theorem in_no (x a b : Int) (h : x < a ∨ b < x) (w : World) : Calls Tryd.prog 93 #[.int .i64 x, .int .i64 a, .int .i64 b] w fun e w' => e = .returned (.bool false) ∧ w' = w := by
  by_cases h0 : a ≤ x
  · have h1 : ¬ x ≤ b := by omega
    have e : decide (x ≤ b) = false := by simpa using h1
    clear h
    go_enter Tryd.func93, Tryd.ntmps93
    go_wp2
    go_ret
    exact ⟨by simp, rfl⟩
  · clear h
    go_enter Tryd.func93, Tryd.ntmps93
    go_wp2
    go_ret
    exact ⟨rfl, rfl⟩

set_option maxRecDepth 100000 in
theorem mode_yes (mode : Int) (h0 : 1 ≤ mode) (h1 : mode ≤ 5) (w : World) : Calls Tryd.prog 67 #[.int .i64 mode] w fun e w' => e = .returned (.bool true) ∧ w' = w := by
  go_enter Tryd.func67, Tryd.ntmps67
  go_wp2_with (go_at_call 93; refine (in_yes mode 1 5 h0 h1 _).mono ?_; rintro e w' ⟨rfl, rfl⟩)
  go_ret
  exact ⟨rfl, rfl⟩

set_option maxRecDepth 100000 in
theorem mode_no (mode : Int) (h : mode < 1 ∨ 5 < mode) (w : World) : Calls Tryd.prog 67 #[.int .i64 mode] w fun e w' => e = .returned (.bool false) ∧ w' = w := by
  have hn := fun w => in_no mode 1 5 h w
  clear h
  go_enter Tryd.func67, Tryd.ntmps67
  go_wp2_with (go_at_call 93; refine (hn _).mono ?_; rintro e w' ⟨rfl, rfl⟩)
  go_ret
  exact ⟨rfl, rfl⟩

set_option maxRecDepth 100000 in
theorem pack_no (f mode K E M : Int) (n : Bool) (w : World) (h : (f < 1 ∨ 3 < f) ∨ (mode < 1 ∨ 5 < mode)) :
    Calls Tryd.prog 13 #[.int .i64 f, .int .i64 mode, .agg #[.int .i64 K, .bool n, .int .i64 E, .int .u64 M]] w fun e w' => e = .returned (.tuple #[.int .u64 0, .int .i64 0]) ∧ Below w.heap.size w w' := by
  by_cases f1 : 1 ≤ f
  · by_cases f3 : f ≤ 3
    · by_cases m1 : 1 ≤ mode
      · have m5 : ¬ mode ≤ 5 := by omega
        clear h
        go_enter Tryd.func13, Tryd.ntmps13
        go_wp2_with (first | (go_at_call 40; go_in) | (go_at_call 41; go_in))
        go_ret2
        exact ⟨rfl, below_one _⟩
      · clear h
        go_enter Tryd.func13, Tryd.ntmps13
        go_wp2_with (first | (go_at_call 40; go_in) | (go_at_call 41; go_in))
        go_ret2
        exact ⟨rfl, below_one _⟩
    · clear h
      go_enter Tryd.func13, Tryd.ntmps13
      go_wp2_with (first | (go_at_call 40; go_in) | (go_at_call 41; go_in))
      go_ret2
      exact ⟨rfl, below_one _⟩
  · clear h
    go_enter Tryd.func13, Tryd.ntmps13
    go_wp2_with (first | (go_at_call 40; go_in) | (go_at_call 41; go_in))
    go_ret2
    exact ⟨rfl, below_one _⟩

set_option maxRecDepth 100000 in
theorem pack_bad (f mode E M : Int) (n : Bool) (w : World) (hf0 : 1 ≤ f) (hf1 : f ≤ 3) (hm0 : 1 ≤ mode) (hm1 : mode ≤ 5) (h : M = 0 ∨ E < -5000 ∨ 5000 < E) :
    Calls Tryd.prog 13 #[.int .i64 f, .int .i64 mode, .agg #[.int .i64 1, .bool n, .int .i64 E, .int .u64 M]] w fun e w' => e = .returned (.tuple #[.int .u64 0, .int .i64 0]) ∧ Below w.heap.size w w' := by
  by_cases h0 : M = 0
  · subst h0
    clear h
    go_enter Tryd.func13, Tryd.ntmps13
    go_wp2_with (first | (go_at_call 40; go_in) | (go_at_call 41; go_in))
    go_ret2
    exact ⟨rfl, below_one _⟩
  · have hb : (M == 0) = false := by simpa using h0
    by_cases h1 : E < -5000
    · clear h
      go_enter Tryd.func13, Tryd.ntmps13
      go_wp2_with (first | (go_at_call 40; go_in) | (go_at_call 41; go_in))
      go_ret2
      exact ⟨rfl, below_one _⟩
    · have h2 : 5000 < E := by omega
      clear h
      go_enter Tryd.func13, Tryd.ntmps13
      go_wp2_with (first | (go_at_call 40; go_in) | (go_at_call 41; go_in))
      go_ret2
      exact ⟨rfl, below_one _⟩

set_option maxRecDepth 100000 in
theorem pack_good (f mode K E M v x : Int) (n : Bool) (w : World) (hs : Shp w) (hf0 : 1 ≤ f) (hf1 : f ≤ 3) (hm0 : 1 ≤ mode) (hm1 : mode ≤ 5) (hK : (K == 1) = false ∨ ((K == 1) = true ∧ (M == 0) = false ∧ -5000 ≤ E ∧ E ≤ 5000))
    (hN : ∀ w, Shp w → Calls Tryd.prog 42 #[.int .i64 f, .int .i64 mode, .agg #[.int .i64 K, .bool n, .int .i64 E, .int .u64 M]] w fun e w' => e = .returned (.tuple #[.int .u64 v, .int .i64 x]) ∧ Below w.heap.size w w') :
    Calls Tryd.prog 13 #[.int .i64 f, .int .i64 mode, .agg #[.int .i64 K, .bool n, .int .i64 E, .int .u64 M]] w fun e w' => e = .returned (.tuple #[.int .u64 v, .int .i64 x]) ∧ Below w.heap.size w w' := by
  have hs1 := fun o => shp_below hs (shp_pos hs) (below_one (w := w) o)
  rcases hK with hK | ⟨hK, hM, hE0, hE1⟩
  all_goals
    go_enter Tryd.func13, Tryd.ntmps13
    go_wp2_with (first | (go_at_call 42; with_reducible refine (hN _ (hs1 _)).mono ?_; rintro e w' ⟨rfl, hb⟩) | (go_at_call 40; go_in) | (go_at_call 41; go_in))
    go_ret2
    exact ⟨rfl, (below_one _).trans (hb.mono (below_one _).size)⟩

/-- What the model's Pack has laid: the number. -/
structure L4 (B : Nat) (K E M : Int) (n : Bool) (w W : World) : Prop where
  b0 : W.cell? ⟨B, 0, none⟩ = some (.int .i64 K)
  b1 : W.cell? ⟨B, 1, none⟩ = some (.bool n)
  b2 : W.cell? ⟨B, 2, none⟩ = some (.int .i64 E)
  b3 : W.cell? ⟨B, 3, none⟩ = some (.int .u64 M)
  bl : Below B w W

theorem L4.step {B : Nat} {K E M : Int} {n : Bool} {w W V : World} (h : L4 B K E M n w W) (hb : Below W.heap.size W V) : L4 B K E M n w V := by
  have hl : B < W.heap.size := World.block_lt_of_cell? W _ h.b0
  have c : ∀ o, V.cell? ⟨B, o, none⟩ = W.cell? ⟨B, o, none⟩ := fun o => hb.cell (p := ⟨B, o, none⟩) hl
  exact ⟨(c _).trans h.b0, (c _).trans h.b1, (c _).trans h.b2, (c _).trans h.b3, h.bl.trans (hb.mono (by omega))⟩

theorem l4_start (w : World) (K E M : Int) (n : Bool) : L4 w.heap.size K E M n w (w.alloc (Obj.cells #[.int .i64 K, .bool n, .int .i64 E, .int .u64 M] 30)) := by
  refine ⟨?_, ?_, ?_, ?_, below_one _⟩ <;> simp

end Go.Proofs.YtcpnmcfpnhokgaaDoor
