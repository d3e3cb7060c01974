/- Waves: the law. -/
import Derived.Test.YtlccicbgepfbbabCO
namespace Go.Proofs.Ytlccicbgepfbbab
open Go.RowKit

set_option maxRecDepth 20000 in
set_option maxHeartbeats 8000000 in
theorem law_wav {w : World} {v1 : Value} {n1 : Nat} {xs1 : Nat → Wr} (n : Int) (hv1 : Il5 w v1 n1 xs1) (hn1 : n1 ≤ 9223372036854775807) (N0 : Nat) (hN0 : N0 ≤ 1048576) (m0 : Nat → Nat) (hm0 : ∀ k, k < N0 → m0 k ≤ 1048576) (z0 : Nat → Nat → Int) (c : Bool)
    (hs : n1 ≤ 1048576 → ∀ W u1, Ow W u1 n1 xs1 → Calls Try.prog 19 #[.int .i64 n, u1] W fun e w' => Pgs W w' e N0 m0 z0 c)
    (hi : n1 ≤ 1048576 → ∀ W u1, Ow W u1 n1 xs1 → Calls Try.prog 20 #[.int .i64 n, u1] W fun e w' => Pgs W w' e N0 m0 z0 c) :
    Calls Try.prog 5 #[.int .i64 n, v1] w fun e w' => e = .returned (.bool true) ∧ Below w.heap.size w w' := by
  have HM0 : Hid (∀ k, k < N0 → m0 k ≤ 1048576) := hm0
  clear hm0
  rcases Nat.lt_or_ge 1048576 n1 with h1 | h1
  · obtain ⟨ao1, cap1, rfl, hcap1, hc1⟩ := hv1
    clear hc1 hs hi
    have hz := sz5_any w ao1 n1 cap1 hn1
    rw [if_neg (by omega)] at hz
    go_enter Try.func5, Try.ntmps5
    go_wp2_with (go_at_call 7; (with_reducible refine hz.mono ?_); rintro e w' ⟨rfl, hw⟩; obtain rfl := hw.symm)
    go_ret
    exact ⟨rfl, Below.refl _ _⟩
  have FV1 : Hid (Il5 w v1 n1 xs1) := hv1
  have HS : Hid (∀ W u1, Ow W u1 n1 xs1 → Calls Try.prog 19 #[.int .i64 n, u1] W fun e w' => Pgs W w' e N0 m0 z0 c) := hs h1
  have HI : Hid (∀ W u1, Ow W u1 n1 xs1 → Calls Try.prog 20 #[.int .i64 n, u1] W fun e w' => Pgs W w' e N0 m0 z0 c) := hi h1
  obtain ⟨ao1, cap1, rfl, hcap1, hc1⟩ := hv1
  have hz := sz5_any w ao1 n1 cap1 hn1
  rw [if_pos h1] at hz
  clear hc1 hs hi
  go_enter Try.func5, Try.ntmps5
  go_wp2_with (first
    | (go_at_call 7; (with_reducible refine hz.mono ?_); rintro e w' ⟨rfl, hw⟩; obtain rfl := hw.symm; clear hz)
    | (go_at_call 9; (fail_if_success have := M1); refine (copy5 FV1.out h1).mono ?_; rintro e W1 ⟨hb1, a1, rfl, ho1⟩; have M1 : Hid True := trivial; have B_1 : Hid (Below w.heap.size w W1) := hb1; have Oa1_1 : Hid (W1.ownsRow w.heap.size 48 5 a1 n1 (ils (zs xs1) (n1 * 5))) := ho1; clear hb1 ho1)
    | (go_at_call 19; have Z := M1; (fail_if_success have := M2); refine (HS.out _ _ (ow_of_own Oa1_1.out)).mono ?_; rintro e W2 ⟨u0, rfl, hoa2, hb2⟩; have M2 : Hid True := trivial; have B_2 : Hid (Below w.heap.size w W2) := bstep B_1.out hb2; have Oa1_2 : Hid (W2.ownsRow w.heap.size 48 5 a1 n1 (ils (zs xs1) (n1 * 5))) := own_below Oa1_1.out hb2; have FW0_2 : Hid (Ipp W2 u0 N0 m0 z0) := Gs.ipp hoa2; clear hb2 hoa2)
    | (go_at_call 9; have Z := M2; (fail_if_success have := M3); refine (copy5 (Il5.below FV1.out B_2.out) h1).mono ?_; rintro e W3 ⟨hb3, x1, rfl, ho3⟩; have M3 : Hid True := trivial; have B_3 : Hid (Below w.heap.size w W3) := bstep B_2.out hb3; have D_3 : Hid (Below W2.heap.size W2 W3) := hb3; have Ox1_3 : Hid (W3.ownsRow W2.heap.size 48 5 x1 n1 (ils (zs xs1) (n1 * 5))) := ho3; clear hb3 ho3)
    | (go_at_call 20; have Z := M3; (fail_if_success have := M4); refine (HI.out _ _ (ow_of_own Ox1_3.out)).mono ?_; rintro e W4 ⟨g0, rfl, hoa4, hb4⟩; have M4 : Hid True := trivial; have B_4 : Hid (Below w.heap.size w W4) := bstep B_3.out hb4; have D_4 : Hid (Below W2.heap.size W2 W4) := bstep D_3.out hb4; have Ox1_4 : Hid (W4.ownsRow W2.heap.size 48 5 x1 n1 (ils (zs xs1) (n1 * 5))) := own_below Ox1_3.out hb4; have SG_4 : Hid (W3.heap.size ≤ W4.heap.size) := hb4.size; have OG0_4 : Hid (Gs W3.heap.size W4 g0 N0 m0 z0) := hoa4; clear hb4 hoa4)
    | (go_at_call 21; have Z := M4; (fail_if_success have := M5); refine (eqS_yes (Gs.ipp OG0_4.out) (Ipp.below FW0_2.out D_4.out) hN0 HM0.out).mono ?_; rintro e W5 ⟨rfl, hb5⟩; have M5 : Hid True := trivial; have B_5 : Hid (Below w.heap.size w W5) := bstep B_4.out hb5; have D_5 : Hid (Below W2.heap.size W2 W5) := bstep D_4.out hb5; have Ox1_5 : Hid (W5.ownsRow W2.heap.size 48 5 x1 n1 (ils (zs xs1) (n1 * 5))) := own_below Ox1_4.out hb5; have SG_5 : Hid (W3.heap.size ≤ W5.heap.size) := Nat.le_trans SG_4.out hb5.size; have OG0_5 : Hid (Gs W3.heap.size W5 g0 N0 m0 z0) := Gs.below OG0_4.out hb5; clear hb5)
    | (go_at_call 9; have Z := M5; (fail_if_success have := M6); refine (copy5 (Il5.below FV1.out B_5.out) h1).mono ?_; rintro e W6 ⟨hb6, y1, rfl, ho6⟩; have M6 : Hid True := trivial; have B_6 : Hid (Below w.heap.size w W6) := bstep B_5.out hb6; have D_6 : Hid (Below W2.heap.size W2 W6) := bstep D_5.out hb6; have Ox1_6 : Hid (W6.ownsRow W2.heap.size 48 5 x1 n1 (ils (zs xs1) (n1 * 5))) := own_below Ox1_5.out hb6; have SG_6 : Hid (W3.heap.size ≤ W6.heap.size) := Nat.le_trans SG_5.out hb6.size; have OG0_6 : Hid (Gs W3.heap.size W6 g0 N0 m0 z0) := Gs.below OG0_5.out hb6; have Oy1_6 : Hid (W6.ownsRow W5.heap.size 48 5 y1 n1 (ils (zs xs1) (n1 * 5))) := ho6; clear hb6 ho6)
    | (go_at_call 12; have Z := M6; (fail_if_success have := M7); refine (eq5_yes (il5_of_own Ox1_6.out) (il5_of_own Oy1_6.out) h1).mono ?_; rintro e W7 ⟨rfl, hb7⟩; have M7 : Hid True := trivial; have B_7 : Hid (Below w.heap.size w W7) := bstep B_6.out hb7; have D_7 : Hid (Below W2.heap.size W2 W7) := bstep D_6.out hb7; have Ox1_7 : Hid (W7.ownsRow W2.heap.size 48 5 x1 n1 (ils (zs xs1) (n1 * 5))) := own_below Ox1_6.out hb7; have SG_7 : Hid (W3.heap.size ≤ W7.heap.size) := Nat.le_trans SG_6.out hb7.size; have OG0_7 : Hid (Gs W3.heap.size W7 g0 N0 m0 z0) := Gs.below OG0_6.out hb7; have Oy1_7 : Hid (W7.ownsRow W5.heap.size 48 5 y1 n1 (ils (zs xs1) (n1 * 5))) := own_below Oy1_6.out hb7; clear hb7)
    | (go_at_call 13; have Z := M7; (fail_if_success have := M8); refine (marked5 (K := 1) (B := W2.heap.size) (n := n1) (v := x1) (f := (zs xs1)) Ox1_7.out D_7.out.size h1 (by omega)).mono ?_; rintro e W8 ⟨rfl, gx8, hg8, hor8, hon8⟩; have M8 : Hid True := trivial; have B_8 : Hid (Below w.heap.size w W8) := Below.only B_7.out hon8 (Nat.le_trans B_2.out.size hg8); have D_8 : Hid (Below W2.heap.size W2 W8) := Below.only D_7.out hon8 (hg8); have SG_8 : Hid (W3.heap.size ≤ W8.heap.size) := Nat.le_trans SG_7.out hon8.size; have OG0_8 : Hid (Gs W3.heap.size W8 g0 N0 m0 z0) := Gs.only2 OG0_7.out hon8 hor8 Ox1_3.out; clear hon8 hor8 hg8)
    | (go_at_call 21; have Z := M8; (fail_if_success have := M9); refine (eqS_yes (Gs.ipp OG0_8.out) (Ipp.below FW0_2.out D_8.out) hN0 HM0.out).mono ?_; rintro e W9 ⟨rfl, hb9⟩; have M9 : Hid True := trivial; have B_9 : Hid (Below w.heap.size w W9) := bstep B_8.out hb9; have D_9 : Hid (Below W2.heap.size W2 W9) := bstep D_8.out hb9; have SG_9 : Hid (W3.heap.size ≤ W9.heap.size) := Nat.le_trans SG_8.out hb9.size; have OG0_9 : Hid (Gs W3.heap.size W9 g0 N0 m0 z0) := Gs.below OG0_8.out hb9; clear hb9)
    | (go_at_call 22; have Z := M9; (fail_if_success have := M10); refine (markQ OG0_9.out hN0 HM0.out).mono ?_; rintro e W10 ⟨rfl, hmk10, hkd10⟩; have M10 : Hid True := trivial; have B_10 : Hid (Below w.heap.size w W10) := Kd.below B_9.out hkd10 B_9.out.size (fun g hg => Nat.le_trans B_3.out.size hg); have D_10 : Hid (Below W2.heap.size W2 W10) := Kd.below D_9.out hkd10 D_9.out.size (fun g hg => Nat.le_trans D_3.out.size hg); have SG_10 : Hid (W3.heap.size ≤ W10.heap.size) := Nat.le_trans SG_9.out hkd10.size; have MG0_10 : Hid (Gs W3.heap.size W10 g0 N0 m0 (fun k => mkF (1 + (tot m0 k : Int)))) := hmk10; clear hkd10 hmk10)
    | (go_at_call 23; have Z := M10; (fail_if_success have := M11); refine (heldQ MG0_10.out hN0 HM0.out).mono ?_; rintro e w' ⟨rfl, hw⟩; obtain rfl := hw.symm; have M11 : Hid True := trivial)
    | (go_at_call 9; have Z := M11; (fail_if_success have := M12); refine (copy5 (Il5.below FV1.out B_10.out) h1).mono ?_; rintro e W12 ⟨hb12, z1_, rfl, ho12⟩; have M12 : Hid True := trivial; have B_12 : Hid (Below w.heap.size w W12) := bstep B_10.out hb12; have D_12 : Hid (Below W2.heap.size W2 W12) := bstep D_10.out hb12; have SG_12 : Hid (W3.heap.size ≤ W12.heap.size) := Nat.le_trans SG_10.out hb12.size; have MG0_12 : Hid (Gs W3.heap.size W12 g0 N0 m0 (fun k => mkF (1 + (tot m0 k : Int)))) := Gs.below MG0_10.out hb12; have Oz1__12 : Hid (W12.ownsRow W10.heap.size 48 5 z1_ n1 (ils (zs xs1) (n1 * 5))) := ho12; clear hb12 ho12)
    | (go_at_call 20; have Z := M12; (fail_if_success have := M13); refine (HI.out _ _ (ow_of_own Oz1__12.out)).mono ?_; rintro e W13 ⟨h0, rfl, hoa13, hb13⟩; have M13 : Hid True := trivial; have B_13 : Hid (Below w.heap.size w W13) := bstep B_12.out hb13; have D_13 : Hid (Below W2.heap.size W2 W13) := bstep D_12.out hb13; have SG_13 : Hid (W3.heap.size ≤ W13.heap.size) := Nat.le_trans SG_12.out hb13.size; have MG0_13 : Hid (Gs W3.heap.size W13 g0 N0 m0 (fun k => mkF (1 + (tot m0 k : Int)))) := Gs.below MG0_12.out hb13; have Oz1__13 : Hid (W13.ownsRow W10.heap.size 48 5 z1_ n1 (ils (zs xs1) (n1 * 5))) := own_below Oz1__12.out hb13; have OH0_13 : Hid (Gs W12.heap.size W13 h0 N0 m0 z0) := hoa13; clear hb13 hoa13)
    | (go_at_call 21; have Z := M13; (fail_if_success have := M14); refine (eqS_yes (Gs.ipp OH0_13.out) (Ipp.below FW0_2.out D_13.out) hN0 HM0.out).mono ?_; rintro e W14 ⟨rfl, hb14⟩; have M14 : Hid True := trivial; have B_14 : Hid (Below w.heap.size w W14) := bstep B_13.out hb14; have D_14 : Hid (Below W2.heap.size W2 W14) := bstep D_13.out hb14; have SG_14 : Hid (W3.heap.size ≤ W14.heap.size) := Nat.le_trans SG_13.out hb14.size; have MG0_14 : Hid (Gs W3.heap.size W14 g0 N0 m0 (fun k => mkF (1 + (tot m0 k : Int)))) := Gs.below MG0_13.out hb14; have Oz1__14 : Hid (W14.ownsRow W10.heap.size 48 5 z1_ n1 (ils (zs xs1) (n1 * 5))) := own_below Oz1__13.out hb14; have OH0_14 : Hid (Gs W12.heap.size W14 h0 N0 m0 z0) := Gs.below OH0_13.out hb14; clear hb14)
    | (go_at_call 23; have Z := M14; (fail_if_success have := M15); refine (heldQ MG0_14.out hN0 HM0.out).mono ?_; rintro e w' ⟨rfl, hw⟩; obtain rfl := hw.symm; have M15 : Hid True := trivial))
  go_ret
  exact ⟨rfl, B_14.out⟩
theorem walk_wav {w : World} {v : Value} {k : Nat} {ss : Nat → Wr} (n : Int) (hv : Il5 w v k ss) (hk : k ≤ 9223372036854775807) :
    Calls Try.prog 5 #[.int .i64 n, v] w fun e w' => e = .returned (.bool true) ∧ Below w.heap.size w w' := by
  by_cases h : Wok n k ss
  · obtain ⟨nn, rfl⟩ : ∃ nn : Nat, n = (nn : Int) := ⟨n.toNat, by have := h.1; omega⟩
    by_cases hx : ∃ x, Sol (wsn ss) nn k x
    · obtain ⟨x, hx⟩ := hx
      obtain ⟨r, hr⟩ := lst_ex (wsn_ok h) hx
      by_cases hK : ∃ K, Wend nn k ss r nn K
      · obtain ⟨K, hK⟩ := hK
        exact law_wav nn hv hk K (Nat.le_trans (wend_le h hr.1.2.2 hK) (by decide)) _ (fun q _ => by rw [wvl_full]; exact Nat.le_trans (rdl_le nn k ss _ _) (by have := h.1; omega)) _ true (fun _ _ _ ha => (sWv_any ha h hr).mono fun _ _ hb => pwv_yes h hr.1.2.2 hb hK) (fun _ _ _ ha => (iWv_any ha h hr).mono fun _ _ hb => pwv_yes h hr.1.2.2 hb hK)
      · exact law_wav nn hv hk 0 (by omega) (fun _ => 0) (fun _ _ => by decide) (fun _ _ => 0) false (fun _ _ _ ha => (sWv_any ha h hr).mono fun _ _ hb => pwv_no hb hK _ _) (fun _ _ _ ha => (iWv_any ha h hr).mono fun _ _ hb => pwv_no hb hK _ _)
    · exact law_wav nn hv hk 0 (by omega) (fun _ => 0) (fun _ _ => by decide) (fun _ _ => 0) false (fun _ _ _ ha => sWv_bad _ (fun ys => (sBal_any ha.il5 h).mono fun _ _ hb => bpo_no hb hx ys) _ _) (fun _ _ _ ha => iWv_bad _ ha.il5 (fun ys => (iBal_any ha.il5 h).mono fun _ _ hb => bpo_no hb hx ys) _ _)
  · exact law_wav n hv hk 0 (by omega) (fun _ => 0) (fun _ _ => by decide) (fun _ _ => 0) false (fun a _ _ ha => sWv_bad _ (fun ys => sBal_bad n ha.il5 a h ys) _ _) (fun a _ _ ha => iWv_bad _ ha.il5 (fun ys => iBal_bad n ha.il5 a h ys) _ _)
end Go.Proofs.Ytlccicbgepfbbab
