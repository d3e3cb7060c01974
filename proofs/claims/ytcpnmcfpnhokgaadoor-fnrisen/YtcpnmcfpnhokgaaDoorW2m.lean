/- The walks of Order, on both sides. -/
import Derived.WalkSpells
import Derived.WalkLawsBesides
import Derived.Deep.QuietTactic
import Derived.BigQuiet
import Derived.RegionTactic
import Derived.Deep.RegionWith
import Derived.Test.YtcpnmcfpnhokgaaDoorW1m
import Derived.Test.YtcpnmcfpnhokgaaDoorW2
import Derived.Test.YtcpnmcfpnhokgaaDoorW3
namespace Go.Proofs.YtcpnmcfpnhokgaaDoor
open Go.RowKit

theorem compare_any (x y : Int) (w : World) :
    Calls Tryd.prog 48 #[.int .i64 x, .int .i64 y] w fun e w' => e = .returned (.int .i64 (cmp3 x y)) ∧ w' = w := by
  have hx : (x != x) = false := by simp
  have hy : (y != y) = false := by simp
  unfold cmp3
  by_cases h1 : x < y
  · rw [if_pos h1]
    go_enter Tryd.func48, Tryd.ntmps48
    go_wp2
    go_ret
    exact ⟨rfl, rfl⟩
  · rw [if_neg h1]
    by_cases h2 : y < x
    · rw [if_pos h2]
      go_enter Tryd.func48, Tryd.ntmps48
      go_wp2
      go_ret
      exact ⟨rfl, rfl⟩
    · rw [if_neg h2]
      go_enter Tryd.func48, Tryd.ntmps48
      go_wp2
      go_ret
      exact ⟨rfl, rfl⟩

theorem rank_any {f wd p t S D : Int} (hF : Form f wd p t S D) (x l : Int) (w : World) (h0 : 0 ≤ x) (h2 : x < D) (hl0 : 0 ≤ l) (hl1 : l ≤ 1) :
    Calls Tryd.prog 49 #[.agg #[.int .i64 wd, .int .i64 p, .int .i64 t], .int .u64 x, .int .i64 l] w fun e w' => e = .returned (.int .i64 (rk S x l)) ∧ Below w.heap.size w w' := by
  unfold rk
  by_cases h : x < S
  · rw [if_pos h]; exact rank_low hF x l w h0 h
  · rw [if_neg h]; exact rank_high hF x l w (by omega) h2 hl0 hl1

end Go.Proofs.YtcpnmcfpnhokgaaDoor
