/- FnInverse: the draw, and the law. -/
import Derived.Test.YtpnejhibcdaedaaDoorT1
import Derived.Deep.Cut
namespace Go.Proofs.YtpnejhibcdaedaaDoor
open Go.RowKit

set_option maxHeartbeats 2000000 in
theorem dprime_x {w : World} {c : Nat} {a : Option Addr} {len cap : Nat} (h : Cu w c a len cap) :
    Calls Tryd.prog 15 #[.pointer (some ⟨c, 0, none⟩)] w fun e w' => ∃ x : Int, e = .returned (.int .i64 x) ∧ Cu w' c a len cap ∧ Keep c w w' := by
  have HC : Hid (Cu w c a len cap) := h
  clear h
  have P4 : ∀ W, Cu W c a len cap → Calls Tryd.prog 18 #[.pointer (some ⟨c, 0, none⟩), .slice (some ⟨W.heap.size, 0, none⟩) 4 4] (W.alloc (.cells #[.int .i64 0, .int .i64 7, .int .i64 (-1), .int .i64 998244354] 3)) fun e w' => ∃ x : Int, e = .returned (.int .i64 x) ∧ Cu w' c a len cap ∧ Keep c W w' := fun W hW => pick_lit [0, 7, -1, 998244354] (by decide) (by decide) hW
  have P3 : ∀ W, Cu W c a len cap → Calls Tryd.prog 18 #[.pointer (some ⟨c, 0, none⟩), .slice (some ⟨W.heap.size, 0, none⟩) 3 3] (W.alloc (.cells #[.int .i64 998244353, .int .i64 167772161, .int .i64 469762049] 3)) fun e w' => ∃ x : Int, e = .returned (.int .i64 x) ∧ Cu w' c a len cap ∧ Keep c W w' := fun W hW => pick_lit [998244353, 167772161, 469762049] (by decide) (by decide) hW
  go_enter Tryd.func15, Tryd.ntmps15
  go_wp2_with (first
    | (go_at_call 17; refine (once_x HC.out 25).mono ?_; rintro e w1 ⟨x1, rfl, hc, hk⟩; have HC1 : Hid (Cu w1 c a len cap) := hc; have K1 : Hid (Keep c w w1) := hk; clear hc hk)
    | (go_at_call 18; (with_reducible refine (P4 _ HC1.out).mono ?_); rintro e w2 ⟨x2, rfl, hc, hk⟩; have HC2 : Hid (Cu w2 c a len cap) := hc; have K2 : Hid (Keep c w w2) := K1.out.trans hk; clear hc hk)
    | (go_at_call 18; (with_reducible refine (P3 _ HC1.out).mono ?_); rintro e w2 ⟨x2, rfl, hc, hk⟩; have HC2 : Hid (Cu w2 c a len cap) := hc; have K2 : Hid (Keep c w w2) := K1.out.trans hk; clear hc hk))
  all_goals
    go_ret
    exact ⟨_, rfl, HC2.out, K2.out⟩

set_option maxHeartbeats 2000000 in
theorem dres_x {w : World} {c : Nat} {a : Option Addr} {len cap : Nat} (p : Int) (h : Cu w c a len cap) :
    Calls Tryd.prog 16 #[.pointer (some ⟨c, 0, none⟩), .int .i64 p] w fun e w' => ∃ x : Int, e = .returned (.int .i64 x) ∧ Cu w' c a len cap ∧ Keep c w w' := by
  have HC : Hid (Cu w c a len cap) := h
  clear h
  go_enter Tryd.func16, Tryd.ntmps16
  go_wp2_with (first
    | (go_at_call 19; (fail_if_success have := M1); refine (below_x HC.out 5).mono ?_; rintro e w1 ⟨x1, h10, _, h11, rfl, hc, hk⟩; have M1 : Hid True := trivial; have h12 := h11 (by omega); have HC1 : Hid (Cu w1 c a len cap) := hc; have K1 : Hid (Keep c w w1) := hk; clear hc hk h11)
    | (go_at_call 19; have Z := M1; (with_reducible refine (below_x HC1.out _).mono ?_); rintro e w2 ⟨x2, h20, h22, h21, rfl, hc, hk⟩; have HC2 : Hid (Cu w2 c a len cap) := hc; have K2 : Hid (Keep c w w2) := K1.out.trans hk; clear hc hk h21))
  all_goals
    go_ret
    exact ⟨_, rfl, HC2.out, K2.out⟩

set_option maxHeartbeats 2000000 in
theorem dpow_x {w : World} {a : Option Addr} {len cap : Nat} (hr : Row w a len) (hl : len ≤ 1048576) :
    Calls Tryd.prog 6 #[.slice a len cap] w fun e w' => ∃ x y z : Int, e = .returned (.tuple #[.int .i64 x, .int .i64 y, .int .i64 z]) ∧ Below w.heap.size w w' := by
  have HR : Hid (Row w a len) := hr
  clear hr
  obtain ⟨c, hcd⟩ : ∃ c, w.heap.size = c := ⟨_, rfl⟩
  have HN : Hid (Calls Tryd.prog 14 #[.slice a len cap] w fun e w' => e = .returned (.pointer (some ⟨c, 0, none⟩)) ∧ Cu w' c a len cap ∧ Below w.heap.size w w') := by have := new_x (cap := cap) HR.out (by omega); rw [← hcd]; exact this
  have P2 : ∀ (p : Int) W, Cu W c a len cap → Calls Tryd.prog 18 #[.pointer (some ⟨c, 0, none⟩), .slice (some ⟨W.heap.size, 0, none⟩) 2 2] (W.alloc (.cells #[.int .i64 (-1), .int .i64 p] 3)) fun e w' => ∃ x : Int, e = .returned (.int .i64 x) ∧ Cu w' c a len cap ∧ Keep c W w' := fun p W hW => pick_lit [-1, p] (by simp) (by simp) hW
  go_enter Tryd.func6, Tryd.ntmps6
  go_wp2_with (first
    | (go_at_call 14; refine HN.out.mono ?_; rintro e w1 ⟨rfl, hc, hb⟩; have HC1 : Hid (Cu w1 c a len cap) := hc; have B1 : Hid (Below w.heap.size w w1) := hb; clear hc hb)
    | (go_at_call 15; refine (dprime_x HC1.out).mono ?_; rintro e w2 ⟨p, rfl, hc, hk⟩; have HC2 : Hid (Cu w2 c a len cap) := hc; have K2 : Hid (Keep c w1 w2) := hk; clear hc hk)
    | (go_at_call 16; refine (dres_x p HC2.out).mono ?_; rintro e w3 ⟨x3, rfl, hc, hk⟩; have HC3 : Hid (Cu w3 c a len cap) := hc; have K3 : Hid (Keep c w1 w3) := K2.out.trans hk; clear hc hk)
    | (go_at_call 17; (fail_if_success have := M4); refine (once_x HC3.out 20).mono ?_; rintro e w4 ⟨x4, rfl, hc, hk⟩; have M4 : Hid True := trivial; have HC5 : Hid (Cu w4 c a len cap) := hc; have K5 : Hid (Keep c w1 w4) := K3.out.trans hk; clear hc hk)
    | (go_at_call 18; refine (P2 p _ HC5.out).mono ?_; rintro e w5 ⟨x5, rfl, hc, hk⟩; have HC5 : Hid (Cu w5 c a len cap) := hc; have K5 : Hid (Keep c w1 w5) := K5.out.trans hk; clear hc hk)
    | (go_at_call 19; refine (below_x HC5.out 40).mono ?_; rintro e w6 ⟨x6, _, _, _, rfl, hc, hk⟩; have M6 : Hid True := trivial; have HC6 : Hid (Cu w6 c a len cap) := hc; have K6 : Hid (Keep c w1 w6) := K5.out.trans hk; clear hc hk)
    | (go_at_call 17; have Z := M6; refine (once_x HC6.out 3).mono ?_; rintro e w7 ⟨x7, rfl, hc, hk⟩; have HC7 : Hid (Cu w7 c a len cap) := hc; have K7 : Hid (Keep c w1 w7) := K6.out.trans hk; clear hc hk)
    | (go_at_call 20; refine (dbig_x HC7.out).mono ?_; rintro e w8 ⟨x8, rfl, hc, hk⟩; have HC7 : Hid (Cu w8 c a len cap) := hc; have K7 : Hid (Keep c w1 w8) := K7.out.trans hk; clear hc hk))
  all_goals
    go_ret3
    exact ⟨_, _, _, rfl, Below.keep B1.out K7.out (Nat.le_of_eq hcd)⟩
end Go.Proofs.YtpnejhibcdaedaaDoor
