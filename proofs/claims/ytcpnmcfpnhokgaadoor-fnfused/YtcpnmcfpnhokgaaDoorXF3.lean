/- The walk of the law of fused products. -/
import Derived.Test.YtcpnmcfpnhokgaaDoorXE0
import Derived.Test.YtcpnmcfpnhokgaaDoorD4
import Derived.RegionTactic
import Derived.Deep.RegionWith
import Derived.BigRegion
import Derived.BigQuiet
import Derived.Deep.QuietTactic
namespace Go.Proofs.YtcpnmcfpnhokgaaDoor
open Go.RowKit

/-- What the calls of the law answer. -/
def FacF (f mode x y X F Y O V G : Int) : Prop :=
  Ans 17 #[.int .i64 f, .int .i64 mode, .int .u64 x, .int .u64 y, .int .u64 0] (.tuple #[.int .u64 X, .int .i64 F]) ∧
  Ans 9 #[.int .i64 f, .int .i64 mode, .int .u64 x, .int .u64 y] (.tuple #[.int .u64 Y, .int .i64 F]) ∧
  Ans 18 #[.int .i64 f, .int .i64 mode, .int .u64 x, .int .u64 y] (.tuple #[.int .u64 Y, .int .i64 F]) ∧
  (X = Y ∨ (X ≠ Y ∧ Ans 19 #[.int .i64 f, .int .u64 X, .int .u64 Y] (.int .i64 0))) ∧
  Ans 15 #[.int .i64 f] (.int .u64 O) ∧
  Ans 17 #[.int .i64 f, .int .i64 mode, .int .u64 x, .int .u64 O, .int .u64 y] (.tuple #[.int .u64 V, .int .i64 G]) ∧
  Ans 8 #[.int .i64 f, .int .i64 mode, .int .u64 x, .int .u64 y] (.tuple #[.int .u64 V, .int .i64 G])

theorem tabs_belowF {w w' : World} (h : Tabs w) (hb : Below w.heap.size w w') : Tabs w' := ⟨shp_below h.shp (shp_pos h.shp) hb, Brj.below h.brj hb⟩

set_option maxHeartbeats 1000000 in
theorem drawMul_any {w : World} {a : Option Addr} {len cap : Nat} (hr : Row w a len) (hl : (len : Int) ≤ 4611686018427387904) :
    Calls Tryd.prog 16 #[.slice a len cap] w (Two w 4) := by
  have HT : Hid (Calls Tryd.prog 23 #[.slice a len cap] w (Two w 4)) := two_any hr hl
  clear hr
  unfold Two
  simp only [if_true]
  go_enter Tryd.func16, Tryd.ntmps16
  go_wp2_with (go_at_call 23; refine HT.out.mono ?_; rintro e w' ⟨f, m, x, y, hx0, hx1, hy0, hy1, rfl, hb⟩; simp only [if_true])
  exact bodyPost_ret (v := .tuple #[.int .i64 f, .int .i64 m, .int .u64 x, .int .u64 y]) (by simp [results, Tryd.results16, go_sem]) rfl ⟨f, m, x, y, hx0, hx1, hy0, hy1, rfl, hb⟩

set_option maxRecDepth 100000 in
set_option maxHeartbeats 8000000 in
theorem walk_fuse (hfac : ∀ f mode x y : Int, 0 ≤ x → x < 18446744073709551616 → 0 ≤ y → y < 18446744073709551616 → ∃ X F Y O V G, FacF f mode x y X F Y O V G) (hone : Ans 15 #[.int .i64 1] (.int .u64 15360)) {w : World} {a : Option Addr} {len cap : Nat} (hs : Tabs w) (hr : Row w a len) :
    Calls Tryd.prog 4 #[.slice a len cap] w fun e w' => e = .returned (.bool true) ∧ Below w.heap.size w w' := by
  by_cases hbig : (1048576 : Int) < len
  · go_enter Tryd.func4, Tryd.ntmps4
    go_wp2_with (go_at_call 6; go_in)
    go_ret
    exact ⟨rfl, Below.refl _ _⟩
  · have hl : (len : Int) ≤ 4611686018427387904 := by omega
    have HD : Hid (Calls Tryd.prog 16 #[.slice a len cap] w (Two w 4)) := drawMul_any hr hl
    have HS : Hid (Tabs w) := hs
    clear hr hs hl
    unfold Two at HD
    simp only [if_true] at HD
    go_enter Tryd.func4, Tryd.ntmps4
    go_wp2_with (first | (go_at_call 6; go_in) | (go_at_call 16; refine HD.out.mono ?_; rintro e w' ⟨f, m, x, y, hx0, hx1, hy0, hy1, rfl, hb⟩; have HB : Hid (Below w.heap.size w w') := hb; clear hb))
    obtain ⟨X, F, Y, O, V, G, a1, b1, c1, hlast, o1, a2, d1⟩ := hfac f m x y hx0 hx1 hy0 hy1
    clear hx0 hx1 hy0 hy1 HD
    unfold Ans at a1 b1 c1 o1 a2 d1 hone
    rcases hlast with rfl | ⟨hne, e1⟩
    · go_wp2_with (first | (go_at_call 17; (first | with_reducible refine (a1 _ (tabs_belowF HS.out HB.out)).mono ?_ | with_reducible refine (a2 _ (tabs_belowF HS.out HB.out)).mono ?_); rintro e w' ⟨rfl, hb⟩; have HB : Hid (Below w.heap.size w w') := HB.out.trans (hb.mono HB.out.size); clear hb) | (go_at_call 9; (with_reducible refine (b1 _ (tabs_belowF HS.out HB.out)).mono ?_); rintro e w' ⟨rfl, hb⟩; have HB : Hid (Below w.heap.size w w') := HB.out.trans (hb.mono HB.out.size); clear hb) | (go_at_call 18; (with_reducible refine (c1 _ (tabs_belowF HS.out HB.out)).mono ?_); rintro e w' ⟨rfl, hb⟩; have HB : Hid (Below w.heap.size w w') := HB.out.trans (hb.mono HB.out.size); clear hb) | (go_at_call 8; (with_reducible refine (d1 _ (tabs_belowF HS.out HB.out)).mono ?_); rintro e w' ⟨rfl, hb⟩; have HB : Hid (Below w.heap.size w w') := HB.out.trans (hb.mono HB.out.size); clear hb) | (go_at_call 15; (first | with_reducible refine (o1 _ (tabs_belowF HS.out HB.out)).mono ?_ | with_reducible refine (hone _ (tabs_belowF HS.out HB.out)).mono ?_); rintro e w' ⟨rfl, hb⟩; have HB : Hid (Below w.heap.size w w') := HB.out.trans (hb.mono HB.out.size); clear hb))
      go_ret
      exact ⟨rfl, HB.out⟩
    · unfold Ans at e1
      have hne2 : (X != Y) = true := by simp [hne]
      go_wp2_with (first | (go_at_call 17; (first | with_reducible refine (a1 _ (tabs_belowF HS.out HB.out)).mono ?_ | with_reducible refine (a2 _ (tabs_belowF HS.out HB.out)).mono ?_); rintro e w' ⟨rfl, hb⟩; have HB : Hid (Below w.heap.size w w') := HB.out.trans (hb.mono HB.out.size); clear hb) | (go_at_call 9; (with_reducible refine (b1 _ (tabs_belowF HS.out HB.out)).mono ?_); rintro e w' ⟨rfl, hb⟩; have HB : Hid (Below w.heap.size w w') := HB.out.trans (hb.mono HB.out.size); clear hb) | (go_at_call 18; (with_reducible refine (c1 _ (tabs_belowF HS.out HB.out)).mono ?_); rintro e w' ⟨rfl, hb⟩; have HB : Hid (Below w.heap.size w w') := HB.out.trans (hb.mono HB.out.size); clear hb) | (go_at_call 8; (with_reducible refine (d1 _ (tabs_belowF HS.out HB.out)).mono ?_); rintro e w' ⟨rfl, hb⟩; have HB : Hid (Below w.heap.size w w') := HB.out.trans (hb.mono HB.out.size); clear hb) | (go_at_call 15; (first | with_reducible refine (o1 _ (tabs_belowF HS.out HB.out)).mono ?_ | with_reducible refine (hone _ (tabs_belowF HS.out HB.out)).mono ?_); rintro e w' ⟨rfl, hb⟩; have HB : Hid (Below w.heap.size w w') := HB.out.trans (hb.mono HB.out.size); clear hb) | (go_at_call 19; (with_reducible refine (e1 _ (tabs_belowF HS.out HB.out)).mono ?_); rintro e w' ⟨rfl, hb⟩; have HB : Hid (Below w.heap.size w w') := HB.out.trans (hb.mono HB.out.size); clear hb))
      go_ret
      exact ⟨rfl, HB.out⟩
end Go.Proofs.YtcpnmcfpnhokgaaDoor
