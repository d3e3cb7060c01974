/- The walk of the law of exchanged arguments. -/
import Derived.Test.YtcpnmcfpnhokgaaDoorXE0
import Derived.Test.YtcpnmcfpnhokgaaDoorD4
import Derived.RegionTactic
import Derived.Deep.RegionWith
import Derived.BigRegion
namespace Go.Proofs.YtcpnmcfpnhokgaaDoor
open Go.RowKit

theorem tabs_below {w w' : World} (h : Tabs w) (hb : Below w.heap.size w w') : Tabs w' := ⟨shp_below h.shp (shp_pos h.shp) hb, Brj.below h.brj hb⟩

set_option maxHeartbeats 1000000 in
theorem drawAdd_any {w : World} {a : Option Addr} {len cap : Nat} (hr : Row w a len) (hl : (len : Int) ≤ 4611686018427387904) :
    Calls Tryd.prog 7 #[.slice a len cap] w (Two w 4) := by
  have HT : Hid (Calls Tryd.prog 23 #[.slice a len cap] w (Two w 4)) := two_any hr hl
  clear hr
  unfold Two
  simp only [if_true]
  go_enter Tryd.func7, Tryd.ntmps7
  go_wp2_with (go_at_call 23; refine HT.out.mono ?_; rintro e w' ⟨f, m, x, y, hx0, hx1, hy0, hy1, rfl, hb⟩; simp only [if_true])
  exact bodyPost_ret (v := .tuple #[.int .i64 f, .int .i64 m, .int .u64 x, .int .u64 y]) (by simp [results, Tryd.results7, go_sem]) rfl ⟨f, m, x, y, hx0, hx1, hy0, hy1, rfl, hb⟩

/-- Four cells of a new block, later. -/
theorem four_in {w w' : World} {a b c d : Value} {t : TypeId} (hb : Below (w.alloc (.cells #[a, b, c, d] t)).heap.size (w.alloc (.cells #[a, b, c, d] t)) w') :
    w'.cell? ⟨w.heap.size, 0, none⟩ = some a ∧ w'.cell? ⟨w.heap.size, 1, none⟩ = some b ∧ w'.cell? ⟨w.heap.size, 2, none⟩ = some c ∧ w'.cell? ⟨w.heap.size, 3, none⟩ = some d ∧ ∀ o, w'.frozen? ⟨w.heap.size, o, none⟩ = false := by
  have hl : w.heap.size < (w.alloc (.cells #[a, b, c, d] t)).heap.size := by simp
  refine ⟨(hb.cell (p := ⟨w.heap.size, 0, none⟩) hl).trans (by simp), (hb.cell (p := ⟨w.heap.size, 1, none⟩) hl).trans (by simp), (hb.cell (p := ⟨w.heap.size, 2, none⟩) hl).trans (by simp), (hb.cell (p := ⟨w.heap.size, 3, none⟩) hl).trans (by simp), fun o => (hb.frozen (p := ⟨w.heap.size, o, none⟩) hl).trans (by simp)⟩

theorem four_lt {w w' : World} {o : Obj} (hb : Below (w.alloc o).heap.size (w.alloc o) w') : w.heap.size < w'.heap.size := by
  have := hb.size
  simp at this
  omega

set_option maxRecDepth 100000 in
set_option maxHeartbeats 8000000 in
theorem walk_exch (hfac : ∀ f mode x y : Int, 0 ≤ x → x < 18446744073709551616 → 0 ≤ y → y < 18446744073709551616 → ∃ V F U H K E M n, FacE f mode x y V F U H K E M n) {R : Int} (htwo : Ans 8 #[.int .i64 2, .int .i64 1, .int .u64 1065353216, .int .u64 1065353216] (.tuple #[.int .u64 1073741824, .int .i64 R])) (hone : Ans 15 #[.int .i64 2] (.int .u64 1065353216)) {w : World} {a : Option Addr} {len cap : Nat} (hs : Tabs w) (hr : Row w a len) :
    Calls Tryd.prog 3 #[.slice a len cap] w fun e w' => e = .returned (.bool true) ∧ Below w.heap.size w w' := by
  by_cases hbig : (1048576 : Int) < len
  · go_enter Tryd.func3, Tryd.ntmps3
    go_wp2_with (go_at_call 6; go_in)
    go_ret
    exact ⟨rfl, Below.refl _ _⟩
  · have hl : (len : Int) ≤ 4611686018427387904 := by omega
    have HD : Hid (Calls Tryd.prog 7 #[.slice a len cap] w (Two w 4)) := drawAdd_any hr hl
    have HS : Hid (Tabs w) := hs
    clear hr hs hl
    unfold Two at HD
    simp only [if_true] at HD
    go_enter Tryd.func3, Tryd.ntmps3
    go_wp2_with (first | (go_at_call 6; go_in) | (go_at_call 7; refine HD.out.mono ?_; rintro e w' ⟨f, m, x, y, hx0, hx1, hy0, hy1, rfl, hb⟩; have HB : Hid (Below w.heap.size w w') := hb; clear hb))
    obtain ⟨V, F, U, H, K, E, M, n, a1, a2, b1, b2, c1, u1, u2, hlast⟩ := hfac f m x y hx0 hx1 hy0 hy1
    have HL : Hid (3 ≤ K ∨ (K < 3 ∧ ∃ z F' s r : Int, Ans 13 #[.int .i64 f, .int .i64 1, .agg #[.int .i64 K, .bool (!n), .int .i64 E, .int .u64 M]] (.tuple #[.int .u64 z, .int .i64 F']) ∧
    Ans 14 #[.int .i64 f, .int .i64 m, .int .u64 x, .int .u64 y] (.tuple #[.int .u64 s, .int .i64 r]) ∧ Ans 8 #[.int .i64 f, .int .i64 m, .int .u64 x, .int .u64 z] (.tuple #[.int .u64 s, .int .i64 r]))) := hlast
    clear hlast hx0 hx1 hy0 hy1 HD
    unfold Ans at a1 a2 b1 b2 c1 u1 u2
    go_wp2_with (first | (go_at_call 8; (first | with_reducible refine (a1 _ (tabs_below HS.out HB.out)).mono ?_ | with_reducible refine (a2 _ (tabs_below HS.out HB.out)).mono ?_); rintro e w' ⟨rfl, hb⟩; have HB : Hid (Below w.heap.size w w') := HB.out.trans (hb.mono HB.out.size); clear hb) | (go_at_call 9; (first | with_reducible refine (b1 _ (tabs_below HS.out HB.out)).mono ?_ | with_reducible refine (b2 _ (tabs_below HS.out HB.out)).mono ?_); rintro e w' ⟨rfl, hb⟩; have HB : Hid (Below w.heap.size w w') := HB.out.trans (hb.mono HB.out.size); clear hb) | (go_at_call 10; (with_reducible refine (c1 _ (tabs_below HS.out HB.out)).mono ?_); rintro e w' ⟨rfl, hb⟩; have HB : Hid (Below w.heap.size w w') := HB.out.trans (hb.mono HB.out.size); clear hb))
    have hK3 := HL.out
    have hfl := fld24 K E M n
    rcases hK3 with h3 | ⟨h3, z, F', s, r, p1, p2, p3⟩
    · go_wp2_with (first | (go_at_call 11; (with_reducible refine (u1 _ (tabs_below HS.out HB.out)).mono ?_); rintro e w5 ⟨rfl, hb⟩; have HB5 : Hid (Below w.heap.size w (w5.alloc (.cells #[.int .i64 K, .bool n, .int .i64 E, .int .u64 M] 30))) := (HB.out.trans (hb.mono HB.out.size)).alloc (HB.out.trans (hb.mono HB.out.size)).size _; have A5 : Hid (w.heap.size ≤ w5.heap.size) := (HB.out.trans (hb.mono HB.out.size)).size; clear hb) | (go_at_call 12; (fail_if_success have := M1); (with_reducible refine (u2 _ (tabs_below HS.out HB5.out)).mono ?_); rintro e w6 ⟨rfl, hb⟩; have M1 : Hid True := trivial; obtain ⟨k0, k1, k2, k3, kf⟩ := four_in hb; have HB6 : Hid (Below w.heap.size w w6) := HB5.out.trans (hb.mono HB5.out.size); have L6 : Hid (w5.heap.size < w6.heap.size) := four_lt hb; clear hb))
      have hKK : (K == K) = true := by simp
      go_region_with (go_at_call 12; (refine (u2 _ (tabs_below HS.out HB6.out.drew)).mono ?_); rintro e w7 ⟨rfl, hb⟩; have j0 := (hb.cell (p := ⟨w5.heap.size, 0, none⟩) L6.out).trans k0; have HB7 : Hid (Below w.heap.size w w7) := HB6.out.drew.trans (hb.mono HB6.out.drew.size); clear hb)
      all_goals
        go_wp2
        go_ret
        first
        | exact ⟨rfl, HB7.out⟩
        | exact ⟨(show _ = Ending.returned (.bool (K == K)) from rfl).trans (by rw [hKK]), HB7.out⟩
        | exact ⟨(show _ = Ending.returned (.bool (decide (K = K))) from rfl).trans (by simp), HB7.out⟩
    · unfold Ans at p1 p2 p3 htwo hone
      go_wp2_with (first | (go_at_call 11; (with_reducible refine (u1 _ (tabs_below HS.out HB.out)).mono ?_); rintro e w5 ⟨rfl, hb⟩; have HB5 : Hid (Below w.heap.size w (w5.alloc (.cells #[.int .i64 K, .bool n, .int .i64 E, .int .u64 M] 30))) := (HB.out.trans (hb.mono HB.out.size)).alloc (HB.out.trans (hb.mono HB.out.size)).size _; have A5 : Hid (w.heap.size ≤ w5.heap.size) := (HB.out.trans (hb.mono HB.out.size)).size; clear hb) | (go_at_call 12; (fail_if_success have := M1); (with_reducible refine (u2 _ (tabs_below HS.out HB5.out)).mono ?_); rintro e w6 ⟨rfl, hb⟩; have M1 : Hid True := trivial; obtain ⟨k0, k1, k2, k3, kf⟩ := four_in hb; have HB6 : Hid (Below w.heap.size w w6) := HB5.out.trans (hb.mono HB5.out.size); have L6 : Hid (w5.heap.size < w6.heap.size) := four_lt hb; clear hb) | (go_at_call 13; (with_reducible refine (p1 _ (tabs_below HS.out (HB6.out.setCell A5.out _))).mono ?_); rintro e w' ⟨rfl, hb⟩; have HB6 : Hid (Below w.heap.size w w') := (HB6.out.setCell A5.out _).trans (hb.mono (HB6.out.setCell A5.out _).size); clear hb) | (go_at_call 14; (with_reducible refine (p2 _ (tabs_below HS.out HB6.out)).mono ?_); rintro e w' ⟨rfl, hb⟩; have HB6 : Hid (Below w.heap.size w w') := HB6.out.trans (hb.mono HB6.out.size); clear hb) | (go_at_call 15; (with_reducible refine (hone _ (tabs_below HS.out HB6.out)).mono ?_); rintro e w' ⟨rfl, hb⟩; have HB6 : Hid (Below w.heap.size w w') := HB6.out.trans (hb.mono HB6.out.size); clear hb) | (go_at_call 8; (first | with_reducible refine (p3 _ (tabs_below HS.out HB6.out)).mono ?_ | with_reducible refine (htwo _ (tabs_below HS.out HB6.out)).mono ?_); rintro e w' ⟨rfl, hb⟩; have HB6 : Hid (Below w.heap.size w w') := HB6.out.trans (hb.mono HB6.out.size); clear hb))
      go_ret
      exact ⟨rfl, HB6.out⟩
end Go.Proofs.YtcpnmcfpnhokgaaDoor
