/- Draws of great numbers; FnRoundDiv. -/
import Derived.Test.YtpnejhibcdaedaaDoorD1

namespace Go.Proofs.YtpnejhibcdaedaaDoor
open Go.RowKit

set_option maxHeartbeats 2000000 in
theorem dbig_x {w : World} {c : Nat} {a : Option Addr} {len cap : Nat} (h : Cu w c a len cap) :
    Calls Tryd.prog 20 #[.pointer (some ⟨c, 0, none⟩)] w fun e w' => ∃ x : Int, e = .returned (.int .i64 x) ∧ Cu w' c a len cap ∧ Keep c w w' := by
  have HC : Hid (Cu w c a len cap) := h
  clear h
  have P6 : ∀ W, Cu W c a len cap → Calls Tryd.prog 18 #[.pointer (some ⟨c, 0, none⟩), .slice (some ⟨W.heap.size, 0, none⟩) 6 6] (W.alloc (.cells #[.int .i64 4000000000000000000, .int .i64 4000000000000000001, .int .i64 (-4000000000000000000), .int .i64 (-4000000000000000001), .int .i64 9223372036854775807, .int .i64 (-9223372036854775808)] 3)) fun e w' => ∃ x : Int, e = .returned (.int .i64 x) ∧ Cu w' c a len cap ∧ Keep c W w' := fun W hW => pick_lit [4000000000000000000, 4000000000000000001, -4000000000000000000, -4000000000000000001, 9223372036854775807, -9223372036854775808] (by decide) (by decide) hW
  go_enter Tryd.func20, Tryd.ntmps20
  go_wp2_with (go_at_call 19; refine (below_x HC.out 8).mono ?_; rintro e w1 ⟨i0, hi0, _, hi1, rfl, hc, hk⟩; have hi2 := hi1 (by omega); have HC1 : Hid (Cu w1 c a len cap) := hc; have K1 : Hid (Keep c w w1) := hk; clear hc hk hi1)
  obtain ⟨j, rfl⟩ := Int.eq_ofNat_of_zero_le hi0
  go_loopw [3, 4] (fun x i wr => ∃ (q : Nat) (X : Int), i = .int .i64 q ∧ x = .int .i64 X ∧ q ≤ 8 ∧ Hid (Cu wr c a len cap ∧ Keep c w wr)) (fun _ i _ => (intOf i).toNat)
  case atStart => exact ⟨j, 0, rfl, rfl, by omega, HC1.out, K1.out⟩
  case round =>
    obtain ⟨q, X, rfl, rfl, hq, hcur⟩ := hrel
    by_cases h1 : 0 < q
    · go_wp2_with (go_at_call 30; refine (byte_x hcur.out.1).mono ?_; rintro e w2 ⟨x2, hx0, hx1, rfl, hc, hk⟩; have HC2 : Hid (Cu w2 c a len cap) := hc; have K2 : Hid (Keep c w w2) := hcur.out.2.trans hk; clear hc hk)
      go_roundw
      case rel => exact ⟨q - 1, _, by congr 1; omega, rfl, by omega, HC2.out, K2.out⟩
      case measure => simp [intOf]; omega
    · obtain rfl : q = 0 := by omega
      have HC3 : Hid (Cu wr c a len cap) := hcur.out.1
      have K3 : Hid (Keep c w wr) := hcur.out.2
      clear hcur
      go_wp2_with (first
        | (go_at_call 17; (fail_if_success have := M4); refine (once_x HC3.out 2).mono ?_; rintro e w4 ⟨x4, rfl, hc, hk⟩; have M4 : Hid True := trivial; have HC4 : Hid (Cu w4 c a len cap) := hc; have K4 : Hid (Keep c w w4) := K3.out.trans hk; clear hc hk)
        | (go_at_call 17; (fail_if_success have := M5); refine (once_x HC4.out 15).mono ?_; rintro e w5 ⟨x5, rfl, hc, hk⟩; have M5 : Hid True := trivial; have HC5 : Hid (Cu w5 c a len cap) := hc; have K5 : Hid (Keep c w w5) := K4.out.trans hk; clear hc hk)
        | (go_at_call 18; refine (P6 _ HC5.out).mono ?_; rintro e w6 ⟨x6, rfl, hc, hk⟩; have HC6 : Hid (Cu w6 c a len cap) := hc; have K6 : Hid (Keep c w w6) := K5.out.trans hk; clear hc hk))
      all_goals
        go_ret
        first | exact ⟨_, rfl, HC6.out, K6.out⟩ | exact ⟨_, rfl, HC5.out, K5.out⟩

set_option maxHeartbeats 2000000 in
theorem dround_x {w : World} {a : Option Addr} {len cap : Nat} (hr : Row w a len) (hl : len ≤ 1048576) :
    Calls Tryd.prog 12 #[.slice a len cap] w fun e w' => ∃ x y : Int, e = .returned (.tuple #[.int .i64 x, .int .i64 y]) ∧ Below w.heap.size w w' := by
  have HR : Hid (Row w a len) := hr
  clear hr
  obtain ⟨c, hcd⟩ : ∃ c, w.heap.size = c := ⟨_, rfl⟩
  have HN : Hid (Calls Tryd.prog 14 #[.slice a len cap] w fun e w' => e = .returned (.pointer (some ⟨c, 0, none⟩)) ∧ Cu w' c a len cap ∧ Below w.heap.size w w') := by have := new_x (cap := cap) HR.out (by omega); rw [← hcd]; exact this
  go_enter Tryd.func12, Tryd.ntmps12
  go_wp2_with (first
    | (go_at_call 14; refine HN.out.mono ?_; rintro e w1 ⟨rfl, hc, hb⟩; have HC1 : Hid (Cu w1 c a len cap) := hc; have B1 : Hid (Below w.heap.size w w1) := hb; clear hc hb)
    | (go_at_call 20; (fail_if_success have := M2); refine (dbig_x HC1.out).mono ?_; rintro e w2 ⟨x2, rfl, hc, hk⟩; have M2 : Hid True := trivial; have HC2 : Hid (Cu w2 c a len cap) := hc; have K2 : Hid (Keep c w1 w2) := hk; clear hc hk)
    | (go_at_call 20; (fail_if_success have := M3); refine (dbig_x HC2.out).mono ?_; rintro e w3 ⟨x3, rfl, hc, hk⟩; have M3 : Hid True := trivial; have HC3 : Hid (Cu w3 c a len cap) := hc; have K3 : Hid (Keep c w1 w3) := K2.out.trans hk; clear hc hk)
    | (go_at_call 17; (fail_if_success have := M4); refine (once_x HC3.out 2).mono ?_; rintro e w4 ⟨x4, rfl, hc, hk⟩; have M4 : Hid True := trivial; have HC5 : Hid (Cu w4 c a len cap) := hc; have K5 : Hid (Keep c w1 w4) := K3.out.trans hk; clear hc hk)
    | (go_at_call 19; (fail_if_success have := M6); refine (below_x HC5.out 12).mono ?_; rintro e w5 ⟨x5, _, _, _, rfl, hc, hk⟩; have HC5 : Hid (Cu w5 c a len cap) := hc; have K5 : Hid (Keep c w1 w5) := K5.out.trans hk; clear hc hk)
    | (go_at_call 17; refine (once_x HC5.out 2).mono ?_; rintro e w6 ⟨x6, rfl, hc, hk⟩; have M6 : Hid True := trivial; have HC7 : Hid (Cu w6 c a len cap) := hc; have K7 : Hid (Keep c w1 w6) := K5.out.trans hk; clear hc hk)
    | (go_at_call 19; refine (below_x HC7.out 200).mono ?_; rintro e w7 ⟨x7, _, _, _, rfl, hc, hk⟩; have HC7 : Hid (Cu w7 c a len cap) := hc; have K7 : Hid (Keep c w1 w7) := K7.out.trans hk; clear hc hk))
  all_goals
    go_ret2
    exact ⟨_, _, rfl, Below.keep B1.out K7.out (Nat.le_of_eq hcd)⟩


end Go.Proofs.YtpnejhibcdaedaaDoor
