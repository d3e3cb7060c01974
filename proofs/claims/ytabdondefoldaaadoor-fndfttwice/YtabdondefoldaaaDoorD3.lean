/- FnInverse: the draw, and the law. -/
import Derived.Test.YtabdondefoldaaaDoorD1
import Derived.Deep.Cut
namespace Go.Proofs.YtabdondefoldaaaDoor
open Go.RowKit

set_option maxHeartbeats 2000000 in
theorem dprime_x {w : World} {c : Nat} {a : Option Addr} {len cap : Nat} (h : Cu w c a len cap) :
    Calls Tryd.prog 11 #[.pointer (some ⟨c, 0, none⟩)] w fun e w' => ∃ x : Int, e = .returned (.int .i64 x) ∧ Cu w' c a len cap ∧ Keep c w w' := by
  have HC : Hid (Cu w c a len cap) := h
  clear h
  have P4 : ∀ W, Cu W c a len cap → Calls Tryd.prog 24 #[.pointer (some ⟨c, 0, none⟩), .slice (some ⟨W.heap.size, 0, none⟩) 4 4] (W.alloc (.cells #[.int .i64 0, .int .i64 7, .int .i64 (-1), .int .i64 998244354] 3)) fun e w' => ∃ x : Int, e = .returned (.int .i64 x) ∧ Cu w' c a len cap ∧ Keep c W w' := fun W hW => pick_lit [0, 7, -1, 998244354] (by decide) (by decide) hW
  have P3 : ∀ W, Cu W c a len cap → Calls Tryd.prog 24 #[.pointer (some ⟨c, 0, none⟩), .slice (some ⟨W.heap.size, 0, none⟩) 3 3] (W.alloc (.cells #[.int .i64 998244353, .int .i64 167772161, .int .i64 469762049] 3)) fun e w' => ∃ x : Int, e = .returned (.int .i64 x) ∧ Cu w' c a len cap ∧ Keep c W w' := fun W hW => pick_lit [998244353, 167772161, 469762049] (by decide) (by decide) hW
  go_enter Tryd.func11, Tryd.ntmps11
  go_wp2_with (first
    | (go_at_call 13; refine (once_x HC.out 25).mono ?_; rintro e w1 ⟨x1, rfl, hc, hk⟩; have HC1 : Hid (Cu w1 c a len cap) := hc; have K1 : Hid (Keep c w w1) := hk; clear hc hk)
    | (go_at_call 24; (with_reducible refine (P4 _ HC1.out).mono ?_); rintro e w2 ⟨x2, rfl, hc, hk⟩; have HC2 : Hid (Cu w2 c a len cap) := hc; have K2 : Hid (Keep c w w2) := K1.out.trans hk; clear hc hk)
    | (go_at_call 24; (with_reducible refine (P3 _ HC1.out).mono ?_); rintro e w2 ⟨x2, rfl, hc, hk⟩; have HC2 : Hid (Cu w2 c a len cap) := hc; have K2 : Hid (Keep c w w2) := K1.out.trans hk; clear hc hk))
  all_goals
    go_ret
    exact ⟨_, rfl, HC2.out, K2.out⟩

set_option maxHeartbeats 2000000 in
theorem dres_x {w : World} {c : Nat} {a : Option Addr} {len cap : Nat} (p : Int) (h : Cu w c a len cap) :
    Calls Tryd.prog 14 #[.pointer (some ⟨c, 0, none⟩), .int .i64 p] w fun e w' => ∃ x : Int, e = .returned (.int .i64 x) ∧ Cu w' c a len cap ∧ Keep c w w' := by
  have HC : Hid (Cu w c a len cap) := h
  clear h
  go_enter Tryd.func14, Tryd.ntmps14
  go_wp2_with (first
    | (go_at_call 12; (fail_if_success have := M1); refine (below_x HC.out 5).mono ?_; rintro e w1 ⟨x1, h10, _, h11, rfl, hc, hk⟩; have M1 : Hid True := trivial; have h12 := h11 (by omega); have HC1 : Hid (Cu w1 c a len cap) := hc; have K1 : Hid (Keep c w w1) := hk; clear hc hk h11)
    | (go_at_call 12; have Z := M1; (with_reducible refine (below_x HC1.out _).mono ?_); rintro e w2 ⟨x2, h20, h22, h21, rfl, hc, hk⟩; have HC2 : Hid (Cu w2 c a len cap) := hc; have K2 : Hid (Keep c w w2) := K1.out.trans hk; clear hc hk h21))
  all_goals
    go_ret
    exact ⟨_, rfl, HC2.out, K2.out⟩

end Go.Proofs.YtabdondefoldaaaDoor
