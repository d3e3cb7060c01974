/- FnNear: the draw. -/
import Derived.Test.YtcmjhgijejmiaaaDr
import Derived.Test.YtcmjhgijejmiaaaBn
namespace Go.Proofs.Ytcmjhgijejmiaaa
open Go.RowKit

theorem bd_q {r x : Nat} (h : Q.cn r = Q.cn x) (hx : x < 18446744073709551616) : Bd r := by
  unfold Q.cn at h
  by_cases hr : (Ieee.double.read r).isNaN = true
  · exact .inl (cn_none hr)
  · rw [if_neg hr] at h
    split at h
    · cases h
    · right
      have := Option.some.inj h
      omega

set_option maxHeartbeats 4000000 in
theorem l3_y {W w : World} {c : Nat} {a : Option Addr} {len cap : Nat} (h : Cux W w c a len cap) :
    Calls Try.prog 13 #[.pointer (some ⟨c, 0, none⟩)] w fun e w' => ∃ r : Nat, e = .returned (.float .f64 r) ∧ Bd r ∧ Cux W w' c a len cap := by
  have HC : Hid (Cux W w c a len cap) := h
  clear h
  have hQ := rQuo
  have hM := rMul
  go_enter Try.func13, Try.ntmps13
  go_wp2_with (first
    | (go_at_call 12; (fail_if_success have := hk1); refine (below_x HC.out 5 (by decide) (by decide)).mono ?_; rintro e w1 ⟨k, hk0, hk1, rfl, hc⟩; have HC1 : Hid (Cux W w1 c a len cap) := hc; clear hc)
    | (go_at_call 18; refine (dbits_x HC1.out Q.dbl).mono ?_; rintro e w2 ⟨x, hx0, hx1, rfl, hc⟩; obtain ⟨m, rfl⟩ := Int.eq_ofNat_of_zero_le hx0; have HC2 : Hid (Cux W w2 c a len cap) := hc; clear hc)
    | (go_at_call 17; refine (Q.from_spec m (by omega) _).mono ?_; rintro e w3 ⟨⟨r, rfl, hcr⟩, hb3⟩; have HR3 : Hid (Bd r) := bd_q hcr (by omega); have HC3 : Hid (Cux W w3 c a len cap) := cux_call HC2.out hb3)
    | (go_at_call 12; (with_reducible refine (below_bigx HC1.out 2000 (by decide) (by decide)).mono ?_); rintro e w4 ⟨x, hx0, hx1, rfl, hc⟩; have HC4 : Hid (Cux W w4 c a len cap) := hc; clear hc)
    | (go_at_call 12; (with_reducible refine (below_x HC1.out 201 (by decide) (by decide)).mono ?_); rintro e w5 ⟨x, hx0, hx1, rfl, hc⟩; have HC5 : Hid (Cux W w5 c a len cap) := hc; clear hc)
    | (go_at_call 12; (with_reducible refine (below_bigx HC1.out 10000 (by decide) (by decide)).mono ?_); rintro e w6 ⟨x, hx0, hx1, rfl, hc⟩; have HC6 : Hid (Cux W w6 c a len cap) := hc; clear hc)
    | (go_at_call 12; (with_reducible refine (below_x (cux_fwor HC6.out .quo (floatOfInt .f64 (x - 5000)) 4619567317775286272) 60 (by decide) (by decide)).mono ?_); rintro e w7 ⟨y, hy0, hy1, rfl, hc⟩; have HC7 : Hid (Cux W w7 c a len cap) := hc; clear hc)
    | (go_at_call 12; (with_reducible refine (below_bigx HC1.out 1000 (by decide) (by decide)).mono ?_); rintro e w8 ⟨x, hx0, hx1, rfl, hc⟩; have HC8 : Hid (Cux W w8 c a len cap) := hc; clear hc))
  · go_ret
    exact ⟨_, rfl, HR3.out, HC3.out⟩
  · go_ret
    exact ⟨_, rfl, bd_fres _ (by simp) _ _ _, cux_fwor HC4.out _ _ _⟩
  · go_ret
    exact ⟨_, rfl, bd_int _, HC5.out⟩
  · obtain ⟨j, rfl⟩ := Int.eq_ofNat_of_zero_le hy0
    go_loopw [3, 4] (fun x i wr => ∃ (q X : Nat), i = .int .i64 q ∧ x = .float .f64 X ∧ q ≤ 60 ∧ Hid (Bd X ∧ Cux W wr c a len cap)) (fun _ i _ => (intOf i).toNat)
    case atStart => exact ⟨j, _, rfl, rfl, by omega, bd_fres _ (by simp) _ _ _, HC7.out⟩
    case round =>
      obtain ⟨q, X, rfl, rfl, hq, hcur⟩ := hrel
      by_cases h1 : 0 < q
      · go_wp2
        go_roundw
        case rel => exact ⟨q - 1, _, by congr 1; omega, rfl, by omega, bd_fres _ (by simp) _ _ _, cux_fwor hcur.out.2 _ _ _⟩
        case measure => simp [intOf]; omega
      · obtain rfl : q = 0 := by omega
        go_wp2
        go_ret
        exact ⟨_, rfl, hcur.out.1, hcur.out.2⟩
  · go_ret
    exact ⟨_, rfl, bd_fres _ (by simp) _ _ _, cux_fwor HC8.out _ _ _⟩

set_option maxHeartbeats 2000000 in
theorem dnear_x {w : World} {a : Option Addr} {len cap : Nat} (hr : Row w a len) (hl : len ≤ 1048576) :
    Calls Try.prog 5 #[.slice a len cap] w fun e w' => ∃ x, e = .returned (.float .f64 x) ∧ Bd x ∧ Below w.heap.size w w' := by
  have HR : Hid (Row w a len) := hr
  clear hr
  have hQ := rQuo
  obtain ⟨c, hcd⟩ : ∃ c, w.heap.size = c := ⟨_, rfl⟩
  have HN : Hid (Calls Try.prog 10 #[.slice a len cap] w fun e w' => e = .returned (.pointer (some ⟨c, 0, none⟩)) ∧ Q.Cur w w' c a len cap) := by have := Q.new_any (cap := cap) HR.out (by omega); rw [← hcd]; exact this
  go_enter Try.func5, Try.ntmps5
  go_wp2_with (first
    | (go_at_call 10; refine HN.out.mono ?_; rintro e w1 ⟨rfl, hc⟩; have HX1 : Hid (Cux w1 w1 c a len cap) := cux_of hc; have HC1 : Hid (Q.Cur w w1 c a len cap) := hc; clear hc)
    | (go_at_call 11; refine (once_x HX1.out 3 (by decide) (by decide)).mono ?_; rintro e w2 ⟨x2, rfl, hc⟩; have HX2 : Hid (Cux w1 w2 c a len cap) := hc; clear hc)
    | (go_at_call 12; refine (below_x HX2.out 41 (by decide) (by decide)).mono ?_; rintro e w3 ⟨x3, h30, h31, rfl, hc⟩; have HX3 : Hid (Cux w1 w3 c a len cap) := hc; clear hc)
    | (go_at_call 13; refine (l3_y HX2.out).mono ?_; rintro e w4 ⟨x4, rfl, hbd, hc⟩; have HX4 : Hid (Cux w1 w4 c a len cap) := hc; have HB4 : Hid (Bd x4) := hbd; clear hc hbd))
  all_goals
    go_ret
    first
      | exact ⟨_, rfl, HB4.out, (cux_back HC1.out HX4.out).below⟩
      | exact ⟨_, rfl, bd_fres _ (by simp) _ _ _, below_fwor (cux_back HC1.out HX3.out).below _ _ _⟩
end Go.Proofs.Ytcmjhgijejmiaaa
