/- Two lists to convolve drawn. -/
import Derived.Test.YtimjbpmppigaoaaHD
import Derived.Test.YtimjbpmppigaoaaHB
namespace Go.Proofs.Ytimjbpmppigaoaa
open Go.RowKit

set_option maxHeartbeats 4000000 in
theorem dconv_x {w : World} {a : Option Addr} {len cap : Nat} (hr : Row w a len) (hl : len ≤ 1048576) :
    Calls Try.prog 12 #[.slice a len cap] w fun e w' => ∃ (u v : Value), e = .returned (.tuple #[u, v]) ∧ Hid ((∃ n ys, n ≤ 257 ∧ Il w' u n ys) ∧ (∃ n ys, n ≤ 64 ∧ Il w' v n ys) ∧ Below w.heap.size w w') := by
  obtain ⟨i0, hi, hz0, hz1, hz2⟩ := info_parts Try.info3
  have HR : Hid (Row w a len) := hr
  clear hr
  obtain ⟨c, hcd⟩ : ∃ c, w.heap.size = c := ⟨_, rfl⟩
  have HN : Hid (Calls Try.prog 15 #[.slice a len cap] w fun e w' => e = .returned (.pointer (some ⟨c, 0, none⟩)) ∧ Cu w' c a len cap ∧ Below w.heap.size w w') := by have := new_x (cap := cap) HR.out (by omega); rw [← hcd]; exact this
  have HCD : Hid (w.heap.size ≤ c) := Nat.le_of_eq hcd
  clear hcd
  go_enter Try.func12, Try.ntmps12
  go_wp2_with (first
    | (go_at_call 15; refine HN.out.mono ?_; rintro e w1 ⟨rfl, hc, hb⟩; have HC1 : Hid (Cu w1 c a len cap) := hc; have B1 : Hid (Below w.heap.size w w1) := hb; clear hc hb)
    | (go_at_call 20; (fail_if_success have := M1); refine (size_x a len cap 20 hl).mono ?_; rintro e w' ⟨z1, rfl, hz5, _, hz6, hw⟩; obtain rfl := hw.symm; have hz7 := hz6 (by omega); have M1 : Hid True := trivial; clear hz6)
    | (go_at_call 29; (fail_if_success have := M2); refine (dcv_x HC1.out z1 (by omega)).mono ?_; rintro e w2 ⟨u, n, ys, rfl, hn, hI, hc, hk⟩; have M2 : Hid True := trivial; have F2 : Hid (w2.ownsRow w1.heap.size 3 1 u n (ils ys n)) := hI; have L1 : Hid (c < w1.heap.size) := HC1.out.lt; have HC2 : Hid (Cu w2 c a len cap) := hc; have B2 : Hid (Below w.heap.size w w2) := Below.keep B1.out hk HCD.out; clear hc hk hI)
    | (go_at_call 20; have Z := M2; refine (size_x a len cap 20 hl).mono ?_; rintro e w' ⟨z2, rfl, hy5, _, hy6, hw⟩; obtain rfl := hw.symm; have hy7 := hy6 (by omega); clear hy6)
    | (go_at_call 29; have Z := M2; refine (dcv_x HC2.out z2 (by omega)).mono ?_; rintro e w3 ⟨v, k, zs, rfl, hk64, hI, hc, hk⟩; have F3 : Hid (w3.ownsRow w1.heap.size 3 1 u n (ils ys n)) := own_keep F2.out hk L1.out; have G3 : Hid (w3.ownsRow w2.heap.size 3 1 v k (ils zs k)) := hI; have L2 : Hid (c < w2.heap.size) := HC2.out.lt; have HC3 : Hid (Cu w3 c a len cap) := hc; have B3 : Hid (Below w.heap.size w w3) := Below.keep B2.out hk HCD.out; clear hc hk hI)
    | (go_at_call 18; refine (once_x HC3.out 80).mono ?_; rintro e w4 ⟨x4, rfl, hc, hk⟩; have F4 : Hid (w4.ownsRow w1.heap.size 3 1 u n (ils ys n)) := own_keep F3.out hk L1.out; have G4 : Hid (w4.ownsRow w2.heap.size 3 1 v k (ils zs k)) := own_keep G3.out hk L2.out; have HC4 : Hid (Cu w4 c a len cap) := hc; have B4 : Hid (Below w.heap.size w w4) := Below.keep B3.out hk HCD.out; clear hc hk)
    | (go_at_call 17; refine (below_x HC4.out 2).mono ?_; rintro e w5 ⟨y6, h60, _, h62, rfl, hc, hk⟩; have h63 := h62 (by omega); obtain ⟨t, rfl⟩ := Int.eq_ofNat_of_zero_le h60; have G5 : Hid (w5.ownsRow w2.heap.size 3 1 v k (ils zs k)) := own_keep G4.out hk L2.out; have B5 : Hid (Below w.heap.size w w5) := Below.keep B4.out hk HCD.out; clear hc hk h62)
    | (at_make; refine wpList_make_full _ rfl _ _ 24 rfl w.heap.size 3 i0 (.int .i64 0) 1 Try.underlying24 hi hz0 hz1 .i64 .i64 _ _ (256 + t) rfl rfl (by omega) (by omega) (by rw [hz2]; omega) (by unfold maxLen; omega) B5.out.size ?_; intro w6 hown hgrow; have HB6 : Hid (Below w5.heap.size w5 w6) := (Below.refl _ _).grown hgrow (Nat.le_refl _) (fun _ h => by cases h); rw [made_ils] at hown; have HI6 : Hid (w6.ownsRow w.heap.size 3 1 (.slice (some ⟨w5.heap.size, 0, none⟩) (256 + t) (256 + t)) (256 + t) (ils (fun _ => 0) (256 + t))) := hown; clear hown hgrow))
  all_goals
    go_ret2
    first
      | exact ⟨_, _, rfl, ⟨_, _, by omega, il_of_own HI6.out⟩, ⟨k, zs, hk64, il_of_own (own_below G5.out HB6.out)⟩, bstep B5.out HB6.out⟩
      | exact ⟨_, _, rfl, ⟨n, ys, by omega, il_of_own F4.out⟩, ⟨k, zs, hk64, il_of_own G4.out⟩, B4.out⟩
end Go.Proofs.Ytimjbpmppigaoaa
