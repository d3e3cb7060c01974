/- FnNear: the law. -/
import Derived.Test.YtcmjhgijejmiaaaN1
import Derived.Test.YtcmjhgijejmiaaaS2
import Derived.Test.YtcmjhgijejmiaaaG4
import Derived.Test.YtcmjhgijejmiaaaDx
import Derived.Test.YtcmjhgijejmiaaaSm
namespace Go.Proofs.Ytcmjhgijejmiaaa
open Go.RowKit

theorem nan_of {x : Nat} (h : cn x = none) : (Ieee.double.read x).isNaN = true := by
  cases hh : (Ieee.double.read x).isNaN with
  | true => rfl
  | false => rw [cn_some hh] at h; cases h

theorem eq_of {x y : Nat} (h : cn x = some y) : x = y := by
  unfold cn at h
  split at h
  · cases h
  · exact Option.some.inj h

set_option maxHeartbeats 1000000 in
theorem nearS {x : Nat} (hx : Bd x) (w : World) : Calls Try.prog 8 #[.float .f64 x] w fun e w' => (∃ r, e = .returned (.float .f64 r) ∧ cn r = cnear x) ∧ w' = w := by
  rcases hx with hx | hx
  · have h := nan_of hx
    have o1 := order_nan h
    have hc : cn x = cnear x := by rw [cn_none h]; simp [cnear, h]
    have HC : Hid _ := hc
    clear h hx hc
    go_enter Try.func8, Try.ntmps8
    go_wp2
    go_ret
    exact ⟨⟨_, rfl, HC.out⟩, rfl⟩
  · exact near_spec x hx w

theorem cnear_lt (x : Nat) : Lt64 (cnear x) := by
  intro b h
  unfold cnear at h
  split at h
  · cases h
  · rename_i hn
    cases h
    refine write_lt _ ?_
    cases hr : Ieee.double.read x with
    | nan s t => rw [hr] at hn; exact absurd rfl hn
    | infinity s => rfl
    | number s m e => rfl

theorem wid_lt (r : Nat) : Lt64 (wid r) := by
  intro b h
  unfold wid at h
  split at h
  · cases h
  · rename_i hn
    cases h
    refine write_lt _ ?_
    cases hr : Ieee.single.read r with
    | nan s t => rw [hr] at hn; exact absurd rfl hn
    | infinity s => rfl
    | number s m e => rfl

theorem near_againB {x y : Nat} (hx : Bd x) (h : cn y = cnear x) : cnear y = cn y := by
  rcases hx with hx | hx
  · have hn := nan_of hx
    have hc : cnear x = none := by simp [cnear, hn]
    rw [hc] at h
    rw [h]
    simp [cnear, nan_of h]
  · exact near_again hx h

theorem near_25 : cnear 4612811918334230528 = cn 4611686018427387904 := by decide +kernel

/-- What stands in the law's last line. -/
theorem last_facts {x y : Nat} (hx : Bd x) (h : cn y = cnear x) : FloatKind.f64.format.order x x = none ∨ (FloatKind.f64.format.order x x = some .eq ∧ y = x) ∨
    (FloatKind.f64.format.order x x = some .eq ∧ ∃ u v, floatBits .sub .f64 y x = some u ∧ Hf u ∧ floatBits .sub .f64 x y = some v ∧ Hf v) := by
  rcases hx with hx | hx
  · exact .inl (order_nan (nan_of hx))
  · rcases near_cases x hx with ⟨hn, _⟩ | ⟨hn, hc⟩ | ⟨s, m, d, hd1, hd, h0, h1, hr, hc⟩
    · exact .inl (order_nan hn)
    · rw [hc] at h
      exact .inr (.inl ⟨order_same hn, eq_of h⟩)
    · rw [hc] at h
      obtain ⟨⟨u, hu1, hu2⟩, v, hv1, hv2⟩ := near_diff hd h1 hr (eq_of h)
      exact .inr (.inr ⟨order_same (by rw [hr]; rfl), u, v, hu1, hu2, hv1, hv2⟩)

set_option maxRecDepth 20000 in
set_option maxHeartbeats 4000000 in
theorem walk_near {w : World} {a : Option Addr} {n cap : Nat} (hr : Row w a n) (hn : n ≤ 9223372036854775807) : Calls Try.prog 3 #[.slice a n cap] w fun e w' => e = .returned (.bool true) ∧ Below w.heap.size w w' := by
  have hz := fun W => big_any (w := W) a n cap hn
  by_cases h : n ≤ 1048576
  · rw [decide_eq_false (show ¬ (1048576 : Int) < (n : Int) by omega)] at hz
    have hd := dnear_x (cap := cap) hr h
    clear hr
    go_enter Try.func3, Try.ntmps3
    go_upto_region 10 with (first
      | (go_at_call 4; (with_reducible refine (hz _).mono ?_); rintro e w' ⟨rfl, hw⟩; obtain rfl := hw.symm)
      | (go_at_call 5; refine hd.mono ?_; rintro e w1 ⟨x, rfl, hbd, hb⟩; have BX : Hid (Bd x) := hbd; have B1 : Hid (Below w.heap.size w w1) := hb; clear hb hbd)
      | (go_at_call 6; (fail_if_success have := M2); refine (near_impl x _).mono ?_; rintro e w2 ⟨⟨y, rfl, hc⟩, hb⟩; have M2 : Hid True := trivial; have CY : Hid (cn y = cnear x) := hc; have B2 : Hid (Below w.heap.size w w2) := bstep B1.out hb; clear hb hc)
      | (go_at_call 8; refine (nearS BX.out _).mono ?_; rintro e w' ⟨⟨y2, rfl, hc⟩, hw⟩; obtain rfl := hw.symm; have CY2 : Hid (cn y2 = cnear x) := hc; clear hc)
      | (go_at_call 7; (fail_if_success have := M3); refine (same_any (bd_cn CY.out (cnear_lt x)) (bd_cn CY2.out (cnear_lt x)) (CY.out.trans CY2.out.symm) _).mono ?_; rintro e w3 ⟨rfl, hb⟩; have M3 : Hid True := trivial; have B3 : Hid (Below w.heap.size w w3) := bstep B2.out hb; clear hb)
      | (go_at_call 6; have Z := M3; (fail_if_success have := M4); refine (near_impl y _).mono ?_; rintro e w4 ⟨⟨y4, rfl, hc⟩, hb⟩; have M4 : Hid True := trivial; have C4 : Hid (cn y4 = cn y) := hc.trans (near_againB BX.out CY.out); have B4 : Hid (Below w.heap.size w w4) := bstep B3.out hb; clear hb hc)
      | (go_at_call 7; have Z := M4; (fail_if_success have := M5); refine (same_any (bd_cn (C4.out.trans CY.out) (cnear_lt x)) (bd_cn CY.out (cnear_lt x)) C4.out _).mono ?_; rintro e w5 ⟨rfl, hb⟩; have M5 : Hid True := trivial; have B5 : Hid (Below w.heap.size w w5) := bstep B4.out hb; clear hb)
      | (go_at_call 9; have Z := M5; (fail_if_success have := M6); refine (single_any x _).mono ?_; rintro e w6 ⟨z, r, rfl, hc, _, hb⟩; have M6 : Hid True := trivial; have C6 : Hid (cn z = wid r) := hc; have B6 : Hid (Below w.heap.size w w6) := bstep B5.out hb; clear hb hc)
      | (go_at_call 9; have Z := M6; (fail_if_success have := M7); refine (single_any z _).mono ?_; rintro e w7 ⟨z2, r2, rfl, hc, ht, hb⟩; have M7 : Hid True := trivial; have C7 : Hid (cn z2 = wid r) := hc.trans (wid_again C6.out ht); have B7 : Hid (Below w.heap.size w w7) := bstep B6.out hb; clear hb hc ht)
      | (go_at_call 7; have Z := M7; (fail_if_success have := M8); refine (same_any (bd_cn C7.out (wid_lt r)) (bd_cn C6.out (wid_lt r)) (C7.out.trans C6.out.symm) _).mono ?_; rintro e w8 ⟨rfl, hb⟩; have M8 : Hid True := trivial; have B8 : Hid (Below w.heap.size w w8) := bstep B7.out hb; clear hb)
      | (go_at_call 6; have Z := M8; (fail_if_success have := M9); refine (near_impl 4612811918334230528 _).mono ?_; rintro e w9 ⟨⟨y9, rfl, hc⟩, hb⟩; have M9 : Hid True := trivial; have C9 : Hid (cn y9 = cn 4611686018427387904) := hc.trans near_25; have B9 : Hid (Below w.heap.size w w9) := bstep B8.out hb; clear hb hc)
      | (go_at_call 7; have Z := M9; refine (same_any (bd_cn (C9.out.trans near_25.symm) (cnear_lt _)) (.inr (by decide)) C9.out _).mono ?_; rintro e w10 ⟨rfl, hb⟩; have B10 : Hid (Below w.heap.size w w10) := bstep B9.out hb; clear hb))
    have hf := last_facts BX.out CY.out
    clear hz hd
    rcases hf with o1 | ⟨o1, rfl⟩ | ⟨o1, u, v, hu, hu2, hv, hv2⟩
    · go_wp2
      go_ret
      exact ⟨rfl, B10.out⟩
    · go_wp2
      go_ret
      exact ⟨rfl, B10.out⟩
    · have f1 := rFl .sub hu
      have f2 := rFl .sub hv
      clear hu hv
      rcases hu2 with hu2 | hu2 <;> rcases hv2 with hv2 | hv2
      all_goals
        cases ho : FloatKind.f64.format.order y x with
        | none =>
          go_wp2
          go_ret
          exact ⟨rfl, B10.out⟩
        | some c =>
          cases c
          all_goals
            go_wp2
            go_ret
            exact ⟨rfl, B10.out⟩
  · rw [decide_eq_true (show (1048576 : Int) < (n : Int) by omega)] at hz
    go_enter Try.func3, Try.ntmps3
    go_wp2_with (go_at_call 4; (with_reducible refine (hz _).mono ?_); rintro e w' ⟨rfl, hw⟩; obtain rfl := hw.symm)
    go_ret
    exact ⟨rfl, Below.refl _ _⟩
end Go.Proofs.Ytcmjhgijejmiaaa
