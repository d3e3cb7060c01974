/- The program's packNum of an infinity. -/
import Derived.Test.YtcpnmcfpnhokgaaDoorN1
import Derived.RegionTactic
import Derived.Deep.RegionWith
namespace Go.Proofs.YtcpnmcfpnhokgaaDoor
open Go.RowKit

/-- What packNum has laid ahead of its answer. -/
def Laidp (B : Nat) (wd p t : Int) (n : Bool) (w W : World) : Prop :=
  W.cell? ⟨B + 1, 0, none⟩ = some (.int .i64 wd) ∧ W.cell? ⟨B + 1, 1, none⟩ = some (.int .i64 p) ∧ W.cell? ⟨B + 1, 2, none⟩ = some (.int .i64 t) ∧ W.cell? ⟨B, 1, none⟩ = some (.bool n) ∧ Below B w W

theorem laidp_two (w : World) (n : Bool) (E M wd p t : Int) : Laidp w.heap.size wd p t n w ((w.alloc (Obj.cells #[.int .i64 2, .bool n, .int .i64 E, .int .u64 M] 30)).alloc (Obj.cells #[.int .i64 wd, .int .i64 p, .int .i64 t] 54)) := by
  refine ⟨?_, ?_, ?_, ?_, below_two _ _⟩ <;> simp

set_option maxHeartbeats 3000000 in
theorem packNum_inf1 {f wd p t S D h q : Int} (hF : Frm f wd p t S D h q) (mode E M i v : Int) (n : Bool) (w : World) (hs : Shp w) (hz : 0 < w.heap.size)
    (hI : ∀ W, Laidp w.heap.size wd p t n w W → Calls Tryd.prog 36 #[.agg #[.int .i64 wd, .int .i64 p, .int .i64 t]] W.drew fun e w' => e = .returned (.int .u64 i) ∧ Laidp w.heap.size wd p t n w w')
    (hG : ∀ W, Below w.heap.size w W → Calls Tryd.prog 77 #[.agg #[.int .i64 wd, .int .i64 p, .int .i64 t], .bool n, .int .u64 i] W fun e w' => e = .returned (.int .u64 v) ∧ Below w.heap.size w w') :
    Calls Tryd.prog 42 #[.int .i64 f, .int .i64 mode, .agg #[.int .i64 2, .bool n, .int .i64 E, .int .u64 M]] w fun e w' => e = .returned (.tuple #[.int .u64 v, .int .i64 0]) ∧ Below w.heap.size w w' := by
  obtain ⟨c0, c1, c2, c3, c4, c5, c6, c7, c8, c9, c10, c11⟩ := hs
  rcases hF with ⟨rfl, rfl, rfl, rfl, rfl, rfl, rfl, rfl⟩ | ⟨rfl, rfl, rfl, rfl, rfl, rfl, rfl, rfl⟩ | ⟨rfl, rfl, rfl, rfl, rfl, rfl, rfl, rfl⟩
  all_goals
    go_enter Tryd.func42, Tryd.ntmps42
    go_wp2
    clear c0 c1 c2 c3 c4 c5 c6 c7 c8 c9 c10 c11
    generalize hW : ((w.alloc _).alloc _) = W
    first
      | have hL : Laidp w.heap.size 16 11 15 n w W := by subst hW; exact laidp_two w n E M 16 11 15
      | have hL : Laidp w.heap.size 32 24 127 n w W := by subst hW; exact laidp_two w n E M 32 24 127
      | have hL : Laidp w.heap.size 64 53 1023 n w W := by subst hW; exact laidp_two w n E M 64 53 1023
    clear hW
    have hI1 := hI W hL
    clear hI
    obtain ⟨a1, a2, a3, a4, a5⟩ := hL
    generalize hB : w.heap.size = B at *
    have HB : Hid (w.heap.size = B) := hB
    clear hB
    go_region_with (first | (go_at_call 36; refine hI1.mono ?_; rintro e w' ⟨rfl, b1, b2, b3, b4, b5⟩) | (go_at_call 77; refine (hG _ (by assumption)).mono ?_; rintro e w'' ⟨rfl, hb⟩))
    all_goals
      go_wp2
      go_ret2
      refine ⟨rfl, ?_⟩
      rw [show w.heap.size = B from HB.out]
      exact hb
end Go.Proofs.YtcpnmcfpnhokgaaDoor
