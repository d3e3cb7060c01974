/- Least and Greatest: the laws. -/
import Derived.Test.YtogamhaafcoemaaQ4
namespace Go.Proofs.Ytogamhaafcoemaa
open Go.RowKit

set_option maxHeartbeats 1000000 in
theorem least_spec {w : World} {v : Value} {n : Nat} {xs : Nat → Nat} (hv : Fl w v n xs) (hxs : ∀ k, k < n → xs k < 18446744073709551616) (hn : n ≤ 1048576) :
    Calls Try.prog 6 #[v] w fun e w' => ∃ S, e = .returned (.float .f64 S) ∧ cn S = (if n ≤ 200 ∧ n ≠ 0 then bst false xs n else some 0) ∧ Below w.heap.size w w' := by
  have hb := best_spec false (-1) rfl hv hxs hn
  obtain ⟨ao, cap, rfl, hcap, hc⟩ := hv
  clear hc
  generalize (if n ≤ 200 ∧ n ≠ 0 then bst false xs n else some 0) = R at *
  go_enter Try.func6, Try.ntmps6
  go_wp2_with (go_at_call 15; refine hb.mono ?_; rintro e w1 ⟨S, rfl, hS, hb1⟩; have HS : Hid _ := hS; clear hS)
  go_ret
  exact ⟨_, rfl, HS.out, hb1⟩

set_option maxHeartbeats 1000000 in
theorem greatest_spec {w : World} {v : Value} {n : Nat} {xs : Nat → Nat} (hv : Fl w v n xs) (hxs : ∀ k, k < n → xs k < 18446744073709551616) (hn : n ≤ 1048576) :
    Calls Try.prog 11 #[v] w fun e w' => ∃ S, e = .returned (.float .f64 S) ∧ cn S = (if n ≤ 200 ∧ n ≠ 0 then bst true xs n else some 0) ∧ Below w.heap.size w w' := by
  have hb := best_spec true 1 rfl hv hxs hn
  obtain ⟨ao, cap, rfl, hcap, hc⟩ := hv
  clear hc
  generalize (if n ≤ 200 ∧ n ≠ 0 then bst true xs n else some 0) = R at *
  go_enter Try.func11, Try.ntmps11
  go_wp2_with (go_at_call 15; refine hb.mono ?_; rintro e w1 ⟨S, rfl, hS, hb1⟩; have HS : Hid _ := hS; clear hS)
  go_ret
  exact ⟨_, rfl, HS.out, hb1⟩

set_option maxHeartbeats 1000000 in
theorem walk_least {w : World} {v : Value} {n : Nat} {xs : Nat → Nat} (hv : Fl w v n xs) (hxs : ∀ k, k < n → xs k < 18446744073709551616) (hn : n ≤ 9223372036854775807) :
    Calls Try.prog 3 #[v] w fun e w' => e = .returned (.bool true) ∧ Below w.heap.size w w' := by
  by_cases h : n ≤ 1048576
  · have FV : Hid (Fl w v n xs) := hv
    obtain ⟨ao, cap, rfl, hcap, hc⟩ := hv
    clear hc
    have HB : Hid (Below w.heap.size w w) := Below.refl _ _
    go_enter Try.func3, Try.ntmps3
    go_wp2_with (first
      | (go_at_call 10; refine (eq_yes FX.out FZ.out h).mono ?_; rintro e w7 ⟨rfl, hb⟩; have HB : Hid _ := bstep HB.out hb; clear hb)
      | (go_at_call 7; have MK := MARK; refine (copy_any FV.out h).mono ?_; rintro e w5 ⟨hb, v5, rfl, hv5⟩; have FX : Hid (Fl _ _ n xs) := FX.out.below hb; have FZ : Hid (Fl _ _ n xs) := hv5; have HB : Hid _ := bstep HB.out hb; clear hb hv5)
      | (go_at_call 7; refine (copy_any FV.out h).mono ?_; rintro e w1 ⟨hb, v1, rfl, hv1⟩; have FV : Hid (Fl _ _ n xs) := FV.out.below hb; have FX : Hid (Fl _ _ n xs) := hv1; have HB : Hid _ := bstep HB.out hb; clear hb hv1)
      | (go_at_call 6; refine (least_spec FX.out hxs h).mono ?_; rintro e w2 ⟨S1, rfl, hS, hb⟩; have HS1 : Hid _ := hS; have FV : Hid (Fl _ _ n xs) := FV.out.below hb; have HB : Hid _ := bstep HB.out hb; clear hb hS)
      | (go_at_call 8; refine (best_impl18 FX.out hxs h).mono ?_; rintro e w4 ⟨S2, rfl, hS, hb⟩; have HS2 : Hid _ := hS; have FV : Hid (Fl _ _ n xs) := FV.out.below hb; have FX : Hid (Fl _ _ n xs) := FX.out.below hb; have HB : Hid _ := bstep HB.out hb; clear hb hS)
      | (go_at_call 9; refine (same_yes _ _ _ (HS2.out.trans HS1.out.symm)).mono ?_; rintro e w6 ⟨rfl, hw⟩; obtain rfl := hw.symm; have MARK : Hid True := trivial))
    go_ret
    exact ⟨rfl, HB.out⟩
  · obtain ⟨ao, cap, rfl, hcap, hc⟩ := hv
    clear hc
    go_enter Try.func3, Try.ntmps3
    go_wp2
    go_ret
    exact ⟨rfl, Below.refl _ _⟩

set_option maxHeartbeats 1000000 in
theorem walk_greatest {w : World} {v : Value} {n : Nat} {xs : Nat → Nat} (hv : Fl w v n xs) (hxs : ∀ k, k < n → xs k < 18446744073709551616) (hn : n ≤ 9223372036854775807) :
    Calls Try.prog 4 #[v] w fun e w' => e = .returned (.bool true) ∧ Below w.heap.size w w' := by
  by_cases h : n ≤ 1048576
  · have FV : Hid (Fl w v n xs) := hv
    obtain ⟨ao, cap, rfl, hcap, hc⟩ := hv
    clear hc
    have HB : Hid (Below w.heap.size w w) := Below.refl _ _
    go_enter Try.func4, Try.ntmps4
    go_wp2_with (first
      | (go_at_call 10; refine (eq_yes FX.out FZ.out h).mono ?_; rintro e w7 ⟨rfl, hb⟩; have HB : Hid _ := bstep HB.out hb; clear hb)
      | (go_at_call 7; have MK := MARK; refine (copy_any FV.out h).mono ?_; rintro e w5 ⟨hb, v5, rfl, hv5⟩; have FX : Hid (Fl _ _ n xs) := FX.out.below hb; have FZ : Hid (Fl _ _ n xs) := hv5; have HB : Hid _ := bstep HB.out hb; clear hb hv5)
      | (go_at_call 7; refine (copy_any FV.out h).mono ?_; rintro e w1 ⟨hb, v1, rfl, hv1⟩; have FV : Hid (Fl _ _ n xs) := FV.out.below hb; have FX : Hid (Fl _ _ n xs) := hv1; have HB : Hid _ := bstep HB.out hb; clear hb hv1)
      | (go_at_call 11; refine (greatest_spec FX.out hxs h).mono ?_; rintro e w2 ⟨S1, rfl, hS, hb⟩; have HS1 : Hid _ := hS; have FV : Hid (Fl _ _ n xs) := FV.out.below hb; have HB : Hid _ := bstep HB.out hb; clear hb hS)
      | (go_at_call 12; refine (best_impl19 FX.out hxs h).mono ?_; rintro e w4 ⟨S2, rfl, hS, hb⟩; have HS2 : Hid _ := hS; have FV : Hid (Fl _ _ n xs) := FV.out.below hb; have FX : Hid (Fl _ _ n xs) := FX.out.below hb; have HB : Hid _ := bstep HB.out hb; clear hb hS)
      | (go_at_call 9; refine (same_yes _ _ _ (HS2.out.trans HS1.out.symm)).mono ?_; rintro e w6 ⟨rfl, hw⟩; obtain rfl := hw.symm; have MARK : Hid True := trivial))
    go_ret
    exact ⟨rfl, HB.out⟩
  · obtain ⟨ao, cap, rfl, hcap, hc⟩ := hv
    clear hc
    go_enter Try.func4, Try.ntmps4
    go_wp2
    go_ret
    exact ⟨rfl, Below.refl _ _⟩
end Go.Proofs.Ytogamhaafcoemaa
