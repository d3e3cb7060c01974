/- FnMiddle: the draw. -/
import Derived.Test.YtfobngpokchgeaaD4
namespace Go.Proofs.Ytfobngpokchgeaa
open Go.RowKit

set_option maxHeartbeats 2000000 in
theorem dmid_x {w : World} {a : Option Addr} {len cap : Nat} (hr : Row w a len) (hl : len ≤ 1048576) :
    Calls Try.prog 5 #[.slice a len cap] w fun e w' => ∃ (u : Value) (r : Int), e = .returned (.tuple #[u, .int .i64 r]) ∧ Hid ((∃ n ys, n ≤ 513 ∧ Il w' u n ys) ∧ Below w.heap.size w w') := by
  have HR : Hid (Row w a len) := hr
  clear hr
  obtain ⟨c, hcd⟩ : ∃ c, w.heap.size = c := ⟨_, rfl⟩
  have HN : Hid (Calls Try.prog 9 #[.slice a len cap] w fun e w' => e = .returned (.pointer (some ⟨c, 0, none⟩)) ∧ Cu w' c a len cap ∧ Below w.heap.size w w') := by have := new_x (cap := cap) HR.out (by omega); rw [← hcd]; exact this
  have HCD : Hid (w.heap.size ≤ c) := Nat.le_of_eq hcd
  clear hcd
  go_enter Try.func5, Try.ntmps5
  go_wp2_with (first
    | (go_at_call 9; refine HN.out.mono ?_; rintro e w1 ⟨rfl, hc, hb⟩; have HC1 : Hid (Cu w1 c a len cap) := hc; have B1 : Hid (Below w.heap.size w w1) := hb; clear hc hb)
    | (go_at_call 11; refine (size_x a len cap 30 hl).mono ?_; rintro e w' ⟨z, rfl, hz5, _, hz6, hw⟩; obtain rfl := hw.symm; have hz7 := hz6 (by omega); clear hz6)
    | (go_at_call 10; refine (dany_x HC1.out z (by omega)).mono ?_; rintro e w3 ⟨v, n, ys, rfl, hn, hI, hc, hk⟩; have F3 : Hid (w3.ownsRow w1.heap.size 3 1 v n (ils ys n)) := hI; have L2 : Hid (c < w1.heap.size) := HC1.out.lt; have K3 : Hid (Keep c w1 w3) := hk; have HC3 : Hid (Cu w3 c a len cap) := hc; clear hc hk hI)
    | (go_at_call 12; refine (pick_lit [1, 3, 5, 31, 2, 33, 0, 7] (by decide) (by decide) HC3.out).mono ?_; rintro e w4 ⟨r, rfl, hc, hk⟩; have F4 : Hid (w4.ownsRow w1.heap.size 3 1 v n (ils ys n)) := own_keep F3.out hk L2.out; have B4 : Hid (Below w.heap.size w w4) := Below.keep B1.out (K3.out.trans hk) HCD.out; clear hc hk))
  go_ret2
  exact ⟨_, _, rfl, ⟨n, ys, hn, il_of_own F4.out⟩, B4.out⟩
end Go.Proofs.Ytfobngpokchgeaa
