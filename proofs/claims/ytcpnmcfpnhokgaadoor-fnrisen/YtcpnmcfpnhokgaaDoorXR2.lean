/- The walk of the law of what is greater in another form. -/
import Derived.Test.YtcpnmcfpnhokgaaDoorXR1
import Derived.Test.YtcpnmcfpnhokgaaDoorD4
import Derived.RegionTactic
import Derived.Deep.RegionWith
namespace Go.Proofs.YtcpnmcfpnhokgaaDoor
open Go.RowKit

theorem tabs_below {w w' : World} (h : Tabs w) (hb : Below w.heap.size w w') : Tabs w' := ⟨shp_below h.shp (shp_pos h.shp) hb, Brj.below h.brj hb⟩

set_option maxRecDepth 100000 in
set_option maxHeartbeats 4000000 in
theorem walk_risen {w : World} {a : Option Addr} {len cap : Nat} (hs : Tabs w) (hr : Row w a len) :
    Calls Tryd.prog 5 #[.slice a len cap] w fun e w' => e = .returned (.bool true) ∧ Below w.heap.size w w' := by
  by_cases hbig : (1048576 : Int) < len
  · go_enter Tryd.func5, Tryd.ntmps5
    go_wp2
    go_ret
    exact ⟨rfl, Below.refl _ _⟩
  · have hl : (len : Int) ≤ 4611686018427387904 := by omega
    have HD : Hid (Calls Tryd.prog 20 #[.slice a len cap] w (Two w 3)) := drawCompare_any hr hl
    have HS : Hid (Tabs w) := hs
    clear hr hs hl
    unfold Two at HD
    simp only [if_neg (show ¬ (3 = 4) by decide)] at HD
    go_enter Tryd.func5, Tryd.ntmps5
    go_wp2_with (first | (go_at_call 6; go_in) | (go_at_call 20; refine HD.out.mono ?_; rintro e w' ⟨f, m, x, y, hx0, hx1, hy0, hy1, rfl, hb⟩; have HB : Hid (Below w.heap.size w w') := hb; clear hb))
    obtain ⟨c, a1, a2, hc, hR⟩ := facR_of f x y hx0 hx1 hy0 hy1
    have l1 := last_conv
    have hcc : (c != c) = false := by simp
    unfold Answ at a1 l1
    clear hx0 hx1 hy0 hy1 HD
    go_wp2_with (first | (go_at_call 19; refine (a1 _ (tabs_below HS.out HB.out)).mono ?_; rintro e w' ⟨rfl, hb⟩; have HB : Hid (Below w.heap.size w w') := HB.out.trans (hb.mono HB.out.size); clear hb) | (go_at_call 21; refine (a2 _).mono ?_; rintro e w' ⟨rfl, hb⟩; have HB : Hid (Below w.heap.size w w') := HB.out.trans (hb.mono HB.out.size); clear hb))
    rcases hc with rfl | rfl | rfl | rfl
    · go_loopw [6] (fun u wr => ∃ k : Nat, 1 ≤ k ∧ k ≤ 4 ∧ u = .int .i64 k ∧ Hid (Below w.heap.size w wr)) (fun u _ => 4 - (intOf u).toNat)
      case atStart => exact ⟨1, by decide, by decide, rfl, HB⟩
      case round =>
        clear HB
        obtain ⟨k, hk1, hk4, rfl, HB⟩ := hrel
        by_cases hk : k ≤ 3
        · have hkd : decide ((k : Int) ≤ 3) = true := by simp; omega
          go_wp2
          go_loopw [7] (fun u wr => ∃ j : Nat, 1 ≤ j ∧ j ≤ 6 ∧ u = .int .i64 j ∧ Hid (Below w.heap.size w wr)) (fun u _ => 6 - (intOf u).toNat)
          case atStart => exact ⟨1, by decide, by decide, rfl, HB⟩
          case round =>
            clear HB
            obtain ⟨j, hj1, hj6, rfl, HB⟩ := hrel
            by_cases hj : j ≤ 5
            · obtain ⟨X, F, Y, G, c', b1, b2, b3, n1, n2⟩ := hR k j (by omega) (by omega) (by omega) (by omega)
              unfold Answ at b1 b2 b3
              have n3 : (c' == 1) = false := by simp; omega
              clear n1 n2
              clear hR l1 hcc a2
              go_wp2_with (first | (go_at_call 22; (first | with_reducible refine (b1 _ (tabs_below HS.out HB.out)).mono ?_ | with_reducible refine (b2 _ (tabs_below HS.out HB.out)).mono ?_); rintro e w' ⟨rfl, hb⟩; have HB : Hid (Below w.heap.size w w') := HB.out.trans (hb.mono HB.out.size); clear hb) | (go_at_call 19; (first | with_reducible refine (a1 _ (tabs_below HS.out HB.out)).mono ?_ | with_reducible refine (b3 _ (tabs_below HS.out HB.out)).mono ?_); rintro e w' ⟨rfl, hb⟩; have HB : Hid (Below w.heap.size w w') := HB.out.trans (hb.mono HB.out.size); clear hb))
              go_roundw
              case rel => exact ⟨j + 1, by omega, by omega, by go_num, HB⟩
              case measure => simp [intOf]; omega
            · go_wp2
              go_roundw
              case rel => exact ⟨k + 1, by omega, by omega, by go_num, HB⟩
              case measure => simp [intOf]; omega
        · go_wp2_with (go_at_call 22; refine (l1 _ (tabs_below HS.out HB.out)).mono ?_; rintro e w' ⟨rfl, hb⟩; have HB : Hid (Below w.heap.size w w') := HB.out.trans (hb.mono HB.out.size); clear hb)
          go_ret
          exact ⟨rfl, HB.out⟩
    · go_loopw [6] (fun u wr => ∃ k : Nat, 1 ≤ k ∧ k ≤ 4 ∧ u = .int .i64 k ∧ Hid (Below w.heap.size w wr)) (fun u _ => 4 - (intOf u).toNat)
      case atStart => exact ⟨1, by decide, by decide, rfl, HB⟩
      case round =>
        clear HB
        obtain ⟨k, hk1, hk4, rfl, HB⟩ := hrel
        by_cases hk : k ≤ 3
        · have hkd : decide ((k : Int) ≤ 3) = true := by simp; omega
          go_wp2
          go_loopw [7] (fun u wr => ∃ j : Nat, 1 ≤ j ∧ j ≤ 6 ∧ u = .int .i64 j ∧ Hid (Below w.heap.size w wr)) (fun u _ => 6 - (intOf u).toNat)
          case atStart => exact ⟨1, by decide, by decide, rfl, HB⟩
          case round =>
            clear HB
            obtain ⟨j, hj1, hj6, rfl, HB⟩ := hrel
            by_cases hj : j ≤ 5
            · obtain ⟨X, F, Y, G, c', b1, b2, b3, n1, n2⟩ := hR k j (by omega) (by omega) (by omega) (by omega)
              unfold Answ at b1 b2 b3
              clear n1 n2
              clear hR l1 hcc a2
              go_wp2_with (first | (go_at_call 22; (first | with_reducible refine (b1 _ (tabs_below HS.out HB.out)).mono ?_ | with_reducible refine (b2 _ (tabs_below HS.out HB.out)).mono ?_); rintro e w' ⟨rfl, hb⟩; have HB : Hid (Below w.heap.size w w') := HB.out.trans (hb.mono HB.out.size); clear hb) | (go_at_call 19; (first | with_reducible refine (a1 _ (tabs_below HS.out HB.out)).mono ?_ | with_reducible refine (b3 _ (tabs_below HS.out HB.out)).mono ?_); rintro e w' ⟨rfl, hb⟩; have HB : Hid (Below w.heap.size w w') := HB.out.trans (hb.mono HB.out.size); clear hb))
              go_roundw
              case rel => exact ⟨j + 1, by omega, by omega, by go_num, HB⟩
              case measure => simp [intOf]; omega
            · go_wp2
              go_roundw
              case rel => exact ⟨k + 1, by omega, by omega, by go_num, HB⟩
              case measure => simp [intOf]; omega
        · go_wp2_with (go_at_call 22; refine (l1 _ (tabs_below HS.out HB.out)).mono ?_; rintro e w' ⟨rfl, hb⟩; have HB : Hid (Below w.heap.size w w') := HB.out.trans (hb.mono HB.out.size); clear hb)
          go_ret
          exact ⟨rfl, HB.out⟩
    · go_loopw [6] (fun u wr => ∃ k : Nat, 1 ≤ k ∧ k ≤ 4 ∧ u = .int .i64 k ∧ Hid (Below w.heap.size w wr)) (fun u _ => 4 - (intOf u).toNat)
      case atStart => exact ⟨1, by decide, by decide, rfl, HB⟩
      case round =>
        clear HB
        obtain ⟨k, hk1, hk4, rfl, HB⟩ := hrel
        by_cases hk : k ≤ 3
        · have hkd : decide ((k : Int) ≤ 3) = true := by simp; omega
          go_wp2
          go_loopw [7] (fun u wr => ∃ j : Nat, 1 ≤ j ∧ j ≤ 6 ∧ u = .int .i64 j ∧ Hid (Below w.heap.size w wr)) (fun u _ => 6 - (intOf u).toNat)
          case atStart => exact ⟨1, by decide, by decide, rfl, HB⟩
          case round =>
            clear HB
            obtain ⟨j, hj1, hj6, rfl, HB⟩ := hrel
            by_cases hj : j ≤ 5
            · obtain ⟨X, F, Y, G, c', b1, b2, b3, n1, n2⟩ := hR k j (by omega) (by omega) (by omega) (by omega)
              unfold Answ at b1 b2 b3
              have n3 : (c' == -1) = false := by simp; omega
              clear n1 n2
              clear hR l1 hcc a2
              go_wp2_with (first | (go_at_call 22; (first | with_reducible refine (b1 _ (tabs_below HS.out HB.out)).mono ?_ | with_reducible refine (b2 _ (tabs_below HS.out HB.out)).mono ?_); rintro e w' ⟨rfl, hb⟩; have HB : Hid (Below w.heap.size w w') := HB.out.trans (hb.mono HB.out.size); clear hb) | (go_at_call 19; (first | with_reducible refine (a1 _ (tabs_below HS.out HB.out)).mono ?_ | with_reducible refine (b3 _ (tabs_below HS.out HB.out)).mono ?_); rintro e w' ⟨rfl, hb⟩; have HB : Hid (Below w.heap.size w w') := HB.out.trans (hb.mono HB.out.size); clear hb))
              go_roundw
              case rel => exact ⟨j + 1, by omega, by omega, by go_num, HB⟩
              case measure => simp [intOf]; omega
            · go_wp2
              go_roundw
              case rel => exact ⟨k + 1, by omega, by omega, by go_num, HB⟩
              case measure => simp [intOf]; omega
        · go_wp2_with (go_at_call 22; refine (l1 _ (tabs_below HS.out HB.out)).mono ?_; rintro e w' ⟨rfl, hb⟩; have HB : Hid (Below w.heap.size w w') := HB.out.trans (hb.mono HB.out.size); clear hb)
          go_ret
          exact ⟨rfl, HB.out⟩
    · go_loopw [6] (fun u wr => ∃ k : Nat, 1 ≤ k ∧ k ≤ 4 ∧ u = .int .i64 k ∧ Hid (Below w.heap.size w wr)) (fun u _ => 4 - (intOf u).toNat)
      case atStart => exact ⟨1, by decide, by decide, rfl, HB⟩
      case round =>
        clear HB
        obtain ⟨k, hk1, hk4, rfl, HB⟩ := hrel
        by_cases hk : k ≤ 3
        · have hkd : decide ((k : Int) ≤ 3) = true := by simp; omega
          go_wp2
          go_loopw [7] (fun u wr => ∃ j : Nat, 1 ≤ j ∧ j ≤ 6 ∧ u = .int .i64 j ∧ Hid (Below w.heap.size w wr)) (fun u _ => 6 - (intOf u).toNat)
          case atStart => exact ⟨1, by decide, by decide, rfl, HB⟩
          case round =>
            clear HB
            obtain ⟨j, hj1, hj6, rfl, HB⟩ := hrel
            by_cases hj : j ≤ 5
            · obtain ⟨X, F, Y, G, c', b1, b2, b3, n1, n2⟩ := hR k j (by omega) (by omega) (by omega) (by omega)
              unfold Answ at b1 b2 b3
              clear n1 n2
              clear hR l1 hcc a2
              go_wp2_with (first | (go_at_call 22; (first | with_reducible refine (b1 _ (tabs_below HS.out HB.out)).mono ?_ | with_reducible refine (b2 _ (tabs_below HS.out HB.out)).mono ?_); rintro e w' ⟨rfl, hb⟩; have HB : Hid (Below w.heap.size w w') := HB.out.trans (hb.mono HB.out.size); clear hb) | (go_at_call 19; (first | with_reducible refine (a1 _ (tabs_below HS.out HB.out)).mono ?_ | with_reducible refine (b3 _ (tabs_below HS.out HB.out)).mono ?_); rintro e w' ⟨rfl, hb⟩; have HB : Hid (Below w.heap.size w w') := HB.out.trans (hb.mono HB.out.size); clear hb))
              go_roundw
              case rel => exact ⟨j + 1, by omega, by omega, by go_num, HB⟩
              case measure => simp [intOf]; omega
            · go_wp2
              go_roundw
              case rel => exact ⟨k + 1, by omega, by omega, by go_num, HB⟩
              case measure => simp [intOf]; omega
        · go_wp2_with (go_at_call 22; refine (l1 _ (tabs_below HS.out HB.out)).mono ?_; rintro e w' ⟨rfl, hb⟩; have HB : Hid (Below w.heap.size w w') := HB.out.trans (hb.mono HB.out.size); clear hb)
          go_ret
          exact ⟨rfl, HB.out⟩
end Go.Proofs.YtcpnmcfpnhokgaaDoor
