/- Air: the law. -/
import Derived.Test.YtlcfcdpgggocnaaAL
namespace Go.Proofs.Ytlcfcdpgggocnaa
open Go.RowKit

theorem sz_at {n cap : Nat} {ao : Option Addr} {L : Int} (hn : n ≤ 9223372036854775807) (hL : 0 ≤ L ∧ L ≤ 1048576) (w : World) : Calls Try.prog 4 #[.slice ao n cap, .int .i64 L] w fun e w' => e = .returned (.int .i64 (if (n : Int) ≤ L then L - (n : Int) else -1)) ∧ w' = w := by
  by_cases h : (n : Int) ≤ L
  · rw [if_pos h]
    go_enter Try.func4, Try.ntmps4
    go_wp2
    go_ret
    exact ⟨rfl, rfl⟩
  · rw [if_neg h]
    go_enter Try.func4, Try.ntmps4
    go_wp2
    go_ret
    exact ⟨rfl, rfl⟩

set_option maxHeartbeats 8000000 in
theorem wai_of {w : World} {v1 : Value} {n1 : Nat} {xs1 : Nat → Int} {v2 : Value} {n2 : Nat} {xs2 : Nat → Int} {dl q : Int} (hv1 : Il2 w v1 n1 xs1) (hn1 : n1 ≤ 9223372036854775807) (hv2 : Il2 w v2 n2 xs2) (hn2 : n2 ≤ 9223372036854775807) (N0 : Nat) (hN0 : N0 ≤ 1048576) (z0 : Nat → Int) (ok : Bool)
    (hs : n1 ≤ 1048576 → n2 ≤ 1048576 → ∀ W u1 u2, Il2 W u1 n1 xs1 → Il2 W u2 n2 xs2 → Calls Try.prog 5 #[u1, .int .i64 dl, .int .i64 q, u2] W fun e w' => Ppk W w' e N0 z0 ok)
    (hi : n1 ≤ 1048576 → n2 ≤ 1048576 → ∀ W u1 u2, Il2 W u1 n1 xs1 → Il2 W u2 n2 xs2 → Calls Try.prog 7 #[u1, .int .i64 dl, .int .i64 q, u2] W fun e w' => Ppk W w' e N0 z0 ok) :
    Calls Try.prog 3 #[v1, .int .i64 dl, .int .i64 q, v2] w fun e w' => e = .returned (.bool true) ∧ Below w.heap.size w w' := by
  rcases Nat.lt_or_ge 1048576 n1 with h1 | h1
  · obtain ⟨ao1, cap1, rfl, hcap1, hc1⟩ := hv1
    obtain ⟨ao2, cap2, rfl, hcap2, hc2⟩ := hv2
    clear hc1 hc2 hs hi
    have s1 := sz_at (n := n1) (cap := cap1) (ao := ao1) (L := 1048576) hn1 (by omega)
    rw [if_neg (by omega)] at s1
    go_enter Try.func3, Try.ntmps3
    go_wp2_with (go_at_call 4; (with_reducible refine (s1 _).mono ?_); rintro e w' ⟨rfl, hw⟩; obtain rfl := hw.symm; clear s1)
    go_ret
    exact ⟨rfl, Below.refl _ _⟩
  rcases Nat.lt_or_ge (1048576 - n1) n2 with h2 | h2
  · obtain ⟨ao1, cap1, rfl, hcap1, hc1⟩ := hv1
    obtain ⟨ao2, cap2, rfl, hcap2, hc2⟩ := hv2
    clear hc1 hc2 hs hi
    have s1 := sz_at (n := n1) (cap := cap1) (ao := ao1) (L := 1048576) hn1 (by omega)
    rw [if_pos (by omega)] at s1
    have s2 := sz_at (n := n2) (cap := cap2) (ao := ao2) (L := 1048576 - (n1 : Int)) hn2 (by omega)
    rw [if_neg (by omega)] at s2
    go_enter Try.func3, Try.ntmps3
    go_wp2_with (first | (go_at_call 4; (with_reducible refine (s1 _).mono ?_); rintro e w' ⟨rfl, hw⟩; obtain rfl := hw.symm; clear s1) | (go_at_call 4; (with_reducible refine (s2 _).mono ?_); rintro e w' ⟨rfl, hw⟩; obtain rfl := hw.symm; clear s2))
    go_ret
    exact ⟨rfl, Below.refl _ _⟩
  have h2 : n2 ≤ 1048576 := by omega
  have FV1 : Hid (Il2 w v1 n1 xs1) := hv1
  have FV2 : Hid (Il2 w v2 n2 xs2) := hv2
  have HS : Hid (∀ W u1 u2, Il2 W u1 n1 xs1 → Il2 W u2 n2 xs2 → Calls Try.prog 5 #[u1, .int .i64 dl, .int .i64 q, u2] W fun e w' => Ppk W w' e N0 z0 ok) := hs h1 h2
  have HI : Hid (∀ W u1 u2, Il2 W u1 n1 xs1 → Il2 W u2 n2 xs2 → Calls Try.prog 7 #[u1, .int .i64 dl, .int .i64 q, u2] W fun e w' => Ppk W w' e N0 z0 ok) := hi h1 h2
  obtain ⟨ao1, cap1, rfl, hcap1, hc1⟩ := hv1
  obtain ⟨ao2, cap2, rfl, hcap2, hc2⟩ := hv2
  have s1 := sz_at (n := n1) (cap := cap1) (ao := ao1) (L := 1048576) hn1 (by omega)
  rw [if_pos (by omega)] at s1
  have s2 := sz_at (n := n2) (cap := cap2) (ao := ao2) (L := 1048576 - (n1 : Int)) hn2 (by omega)
  rw [if_pos (by omega)] at s2
  clear hc1 hc2 hs hi
  go_enter Try.func3, Try.ntmps3
  go_wp2_with (first
    | (go_at_call 4; (with_reducible refine (s1 _).mono ?_); rintro e w' ⟨rfl, hw⟩; obtain rfl := hw.symm; clear s1)
    | (go_at_call 4; (with_reducible refine (s2 _).mono ?_); rintro e w' ⟨rfl, hw⟩; obtain rfl := hw.symm; clear s2)
    | (go_at_call 6; (fail_if_success have := M1); refine (copy2_own FV1.out h1).mono ?_; rintro e W1 ⟨hb1, a1, rfl, hf1, ho1⟩; have M1 : Hid True := trivial; have B_1 : Hid (Below w.heap.size w W1) := hb1; have Oa1_1 : Hid (W1.ownsRow w.heap.size 34 2 a1 n1 (ils xs1 (n1 * 2))) := ho1; clear hb1 ho1 hf1)
    | (go_at_call 6; have Z := M1; (fail_if_success have := M2); refine (copy2_own (Il2.below FV2.out B_1.out) h2).mono ?_; rintro e W2 ⟨hb2, a2, rfl, hf2, ho2⟩; have M2 : Hid True := trivial; have B_2 : Hid (Below w.heap.size w W2) := bstep B_1.out hb2; have Oa1_2 : Hid (W2.ownsRow w.heap.size 34 2 a1 n1 (ils xs1 (n1 * 2))) := own_below Oa1_1.out hb2; have Oa2_2 : Hid (W2.ownsRow W1.heap.size 34 2 a2 n2 (ils xs2 (n2 * 2))) := ho2; clear hb2 ho2 hf2)
    | (go_at_call 5; have Z := M2; (fail_if_success have := M3); refine (HS.out _ _ _ (il2_of_own Oa1_2.out) (il2_of_own Oa2_2.out)).mono ?_; rintro e W3 ⟨u0, rfl, hoa3, hb3⟩; have M3 : Hid True := trivial; have B_3 : Hid (Below w.heap.size w W3) := bstep B_2.out hb3; have Oa1_3 : Hid (W3.ownsRow w.heap.size 34 2 a1 n1 (ils xs1 (n1 * 2))) := own_below Oa1_2.out hb3; have Oa2_3 : Hid (W3.ownsRow W1.heap.size 34 2 a2 n2 (ils xs2 (n2 * 2))) := own_below Oa2_2.out hb3; have FW0_3 : Hid (Il2 W3 u0 N0 z0) := il2_of_own hoa3; clear hb3 hoa3)
    | (go_at_call 6; have Z := M3; (fail_if_success have := M4); refine (copy2_own (Il2.below FV1.out B_3.out) h1).mono ?_; rintro e W4 ⟨hb4, x1, rfl, hf4, ho4⟩; have M4 : Hid True := trivial; have B_4 : Hid (Below w.heap.size w W4) := bstep B_3.out hb4; have D_4 : Hid (Below W3.heap.size W3 W4) := hb4; have Ox1_4 : Hid (W4.ownsRow W3.heap.size 34 2 x1 n1 (ils xs1 (n1 * 2))) := ho4; clear hb4 ho4 hf4)
    | (go_at_call 6; have Z := M4; (fail_if_success have := M5); refine (copy2_own (Il2.below FV2.out B_4.out) h2).mono ?_; rintro e W5 ⟨hb5, x2, rfl, hf5, ho5⟩; have M5 : Hid True := trivial; have B_5 : Hid (Below w.heap.size w W5) := bstep B_4.out hb5; have D_5 : Hid (Below W3.heap.size W3 W5) := bstep D_4.out hb5; have Ox1_5 : Hid (W5.ownsRow W3.heap.size 34 2 x1 n1 (ils xs1 (n1 * 2))) := own_below Ox1_4.out hb5; have S1_5 : Hid (W4.heap.size ≤ W5.heap.size) := hb5.size; have Ox2_5 : Hid (W5.ownsRow W4.heap.size 34 2 x2 n2 (ils xs2 (n2 * 2))) := ho5; clear hb5 ho5 hf5)
    | (go_at_call 7; have Z := M5; (fail_if_success have := M6); refine (HI.out _ _ _ (il2_of_own Ox1_5.out) (il2_of_own Ox2_5.out)).mono ?_; rintro e W6 ⟨g0, rfl, hoa6, hb6⟩; have M6 : Hid True := trivial; have B_6 : Hid (Below w.heap.size w W6) := bstep B_5.out hb6; have D_6 : Hid (Below W3.heap.size W3 W6) := bstep D_5.out hb6; have Ox1_6 : Hid (W6.ownsRow W3.heap.size 34 2 x1 n1 (ils xs1 (n1 * 2))) := own_below Ox1_5.out hb6; have S1_6 : Hid (W4.heap.size ≤ W6.heap.size) := Nat.le_trans S1_5.out hb6.size; have Ox2_6 : Hid (W6.ownsRow W4.heap.size 34 2 x2 n2 (ils xs2 (n2 * 2))) := own_below Ox2_5.out hb6; have SG_6 : Hid (W5.heap.size ≤ W6.heap.size) := hb6.size; have OG0_6 : Hid (W6.ownsRow W5.heap.size 34 2 g0 N0 (ils z0 (N0 * 2))) := hoa6; clear hb6 hoa6)
    | (go_at_call 8; have Z := M6; (fail_if_success have := M7); refine (eq2_yes (il2_of_own OG0_6.out) (Il2.below FW0_3.out D_6.out) hN0).mono ?_; rintro e W7 ⟨rfl, hb7⟩; have M7 : Hid True := trivial; have B_7 : Hid (Below w.heap.size w W7) := bstep B_6.out hb7; have D_7 : Hid (Below W3.heap.size W3 W7) := bstep D_6.out hb7; have Ox1_7 : Hid (W7.ownsRow W3.heap.size 34 2 x1 n1 (ils xs1 (n1 * 2))) := own_below Ox1_6.out hb7; have S1_7 : Hid (W4.heap.size ≤ W7.heap.size) := Nat.le_trans S1_6.out hb7.size; have Ox2_7 : Hid (W7.ownsRow W4.heap.size 34 2 x2 n2 (ils xs2 (n2 * 2))) := own_below Ox2_6.out hb7; have SG_7 : Hid (W5.heap.size ≤ W7.heap.size) := Nat.le_trans SG_6.out hb7.size; have OG0_7 : Hid (W7.ownsRow W5.heap.size 34 2 g0 N0 (ils z0 (N0 * 2))) := own_below OG0_6.out hb7; clear hb7)
    | (go_at_call 6; have Z := M7; (fail_if_success have := M8); refine (copy2_own (Il2.below FV1.out B_7.out) h1).mono ?_; rintro e W8 ⟨hb8, y1, rfl, hf8, ho8⟩; have M8 : Hid True := trivial; have B_8 : Hid (Below w.heap.size w W8) := bstep B_7.out hb8; have D_8 : Hid (Below W3.heap.size W3 W8) := bstep D_7.out hb8; have Ox1_8 : Hid (W8.ownsRow W3.heap.size 34 2 x1 n1 (ils xs1 (n1 * 2))) := own_below Ox1_7.out hb8; have S1_8 : Hid (W4.heap.size ≤ W8.heap.size) := Nat.le_trans S1_7.out hb8.size; have Ox2_8 : Hid (W8.ownsRow W4.heap.size 34 2 x2 n2 (ils xs2 (n2 * 2))) := own_below Ox2_7.out hb8; have SG_8 : Hid (W5.heap.size ≤ W8.heap.size) := Nat.le_trans SG_7.out hb8.size; have OG0_8 : Hid (W8.ownsRow W5.heap.size 34 2 g0 N0 (ils z0 (N0 * 2))) := own_below OG0_7.out hb8; have Oy1_8 : Hid (W8.ownsRow W7.heap.size 34 2 y1 n1 (ils xs1 (n1 * 2))) := ho8; clear hb8 ho8 hf8)
    | (go_at_call 8; have Z := M8; (fail_if_success have := M9); refine (eq2_yes (il2_of_own Ox1_8.out) (il2_of_own Oy1_8.out) h1).mono ?_; rintro e W9 ⟨rfl, hb9⟩; have M9 : Hid True := trivial; have B_9 : Hid (Below w.heap.size w W9) := bstep B_8.out hb9; have D_9 : Hid (Below W3.heap.size W3 W9) := bstep D_8.out hb9; have Ox1_9 : Hid (W9.ownsRow W3.heap.size 34 2 x1 n1 (ils xs1 (n1 * 2))) := own_below Ox1_8.out hb9; have S1_9 : Hid (W4.heap.size ≤ W9.heap.size) := Nat.le_trans S1_8.out hb9.size; have Ox2_9 : Hid (W9.ownsRow W4.heap.size 34 2 x2 n2 (ils xs2 (n2 * 2))) := own_below Ox2_8.out hb9; have SG_9 : Hid (W5.heap.size ≤ W9.heap.size) := Nat.le_trans SG_8.out hb9.size; have OG0_9 : Hid (W9.ownsRow W5.heap.size 34 2 g0 N0 (ils z0 (N0 * 2))) := own_below OG0_8.out hb9; have Oy1_9 : Hid (W9.ownsRow W7.heap.size 34 2 y1 n1 (ils xs1 (n1 * 2))) := own_below Oy1_8.out hb9; clear hb9)
    | (go_at_call 6; have Z := M9; (fail_if_success have := M10); refine (copy2_own (Il2.below FV2.out B_9.out) h2).mono ?_; rintro e W10 ⟨hb10, y2, rfl, hf10, ho10⟩; have M10 : Hid True := trivial; have B_10 : Hid (Below w.heap.size w W10) := bstep B_9.out hb10; have D_10 : Hid (Below W3.heap.size W3 W10) := bstep D_9.out hb10; have Ox1_10 : Hid (W10.ownsRow W3.heap.size 34 2 x1 n1 (ils xs1 (n1 * 2))) := own_below Ox1_9.out hb10; have S1_10 : Hid (W4.heap.size ≤ W10.heap.size) := Nat.le_trans S1_9.out hb10.size; have Ox2_10 : Hid (W10.ownsRow W4.heap.size 34 2 x2 n2 (ils xs2 (n2 * 2))) := own_below Ox2_9.out hb10; have SG_10 : Hid (W5.heap.size ≤ W10.heap.size) := Nat.le_trans SG_9.out hb10.size; have OG0_10 : Hid (W10.ownsRow W5.heap.size 34 2 g0 N0 (ils z0 (N0 * 2))) := own_below OG0_9.out hb10; have Oy2_10 : Hid (W10.ownsRow W9.heap.size 34 2 y2 n2 (ils xs2 (n2 * 2))) := ho10; clear hb10 ho10 hf10)
    | (go_at_call 8; have Z := M10; (fail_if_success have := M11); refine (eq2_yes (il2_of_own Ox2_10.out) (il2_of_own Oy2_10.out) h2).mono ?_; rintro e W11 ⟨rfl, hb11⟩; have M11 : Hid True := trivial; have B_11 : Hid (Below w.heap.size w W11) := bstep B_10.out hb11; have D_11 : Hid (Below W3.heap.size W3 W11) := bstep D_10.out hb11; have Ox1_11 : Hid (W11.ownsRow W3.heap.size 34 2 x1 n1 (ils xs1 (n1 * 2))) := own_below Ox1_10.out hb11; have S1_11 : Hid (W4.heap.size ≤ W11.heap.size) := Nat.le_trans S1_10.out hb11.size; have Ox2_11 : Hid (W11.ownsRow W4.heap.size 34 2 x2 n2 (ils xs2 (n2 * 2))) := own_below Ox2_10.out hb11; have SG_11 : Hid (W5.heap.size ≤ W11.heap.size) := Nat.le_trans SG_10.out hb11.size; have OG0_11 : Hid (W11.ownsRow W5.heap.size 34 2 g0 N0 (ils z0 (N0 * 2))) := own_below OG0_10.out hb11; have Oy2_11 : Hid (W11.ownsRow W9.heap.size 34 2 y2 n2 (ils xs2 (n2 * 2))) := own_below Oy2_10.out hb11; clear hb11)
    | (go_at_call 9; have Z := M11; (fail_if_success have := M12); refine (marked2 (K := 1) (B := W3.heap.size) (n := n1) (v := x1) (f := xs1) Ox1_11.out D_11.out.size h1 (by omega)).mono ?_; rintro e W12 ⟨rfl, _, gx12, hg12, hor12, hon12⟩; have M12 : Hid True := trivial; have B_12 : Hid (Below w.heap.size w W12) := Below.only B_11.out hon12 (Nat.le_trans B_3.out.size hg12); have D_12 : Hid (Below W3.heap.size W3 W12) := Below.only D_11.out hon12 (hg12); have S1_12 : Hid (W4.heap.size ≤ W12.heap.size) := Nat.le_trans S1_11.out hon12.size; have Ox2_12 : Hid (W12.ownsRow W4.heap.size 34 2 x2 n2 (ils xs2 (n2 * 2))) := own_only2 Ox2_11.out hon12 hor12 Ox1_4.out; have SG_12 : Hid (W5.heap.size ≤ W12.heap.size) := Nat.le_trans SG_11.out hon12.size; have OG0_12 : Hid (W12.ownsRow W5.heap.size 34 2 g0 N0 (ils z0 (N0 * 2))) := own_only2 OG0_11.out hon12 hor12 Ox1_5.out; clear hon12 hor12 hg12)
    | (go_at_call 9; have Z := M12; (fail_if_success have := M13); refine (marked2 (K := 1 + 2 * (n1 : Int)) (B := W4.heap.size) (n := n2) (v := x2) (f := xs2) Ox2_12.out S1_12.out h2 (by omega)).mono ?_; rintro e W13 ⟨rfl, _, gx13, hg13, hor13, hon13⟩; have M13 : Hid True := trivial; have B_13 : Hid (Below w.heap.size w W13) := Below.only B_12.out hon13 (Nat.le_trans B_4.out.size hg13); have D_13 : Hid (Below W3.heap.size W3 W13) := Below.only D_12.out hon13 (Nat.le_trans D_4.out.size hg13); have S1_13 : Hid (W4.heap.size ≤ W13.heap.size) := Nat.le_trans S1_12.out hon13.size; have SG_13 : Hid (W5.heap.size ≤ W13.heap.size) := Nat.le_trans SG_12.out hon13.size; have OG0_13 : Hid (W13.ownsRow W5.heap.size 34 2 g0 N0 (ils z0 (N0 * 2))) := own_only2 OG0_12.out hon13 hor13 Ox2_5.out; clear hon13 hor13 hg13)
    | (go_at_call 8; have Z := M13; (fail_if_success have := M14); refine (eq2_yes (il2_of_own OG0_13.out) (Il2.below FW0_3.out D_13.out) hN0).mono ?_; rintro e W14 ⟨rfl, hb14⟩; have M14 : Hid True := trivial; have B_14 : Hid (Below w.heap.size w W14) := bstep B_13.out hb14; have D_14 : Hid (Below W3.heap.size W3 W14) := bstep D_13.out hb14; have S1_14 : Hid (W4.heap.size ≤ W14.heap.size) := Nat.le_trans S1_13.out hb14.size; have SG_14 : Hid (W5.heap.size ≤ W14.heap.size) := Nat.le_trans SG_13.out hb14.size; have OG0_14 : Hid (W14.ownsRow W5.heap.size 34 2 g0 N0 (ils z0 (N0 * 2))) := own_below OG0_13.out hb14; clear hb14)
    | (go_at_call 9; have Z := M14; (fail_if_success have := M15); refine (marked2 (K := 1) (B := W5.heap.size) (n := N0) (v := g0) (f := z0) OG0_14.out SG_14.out hN0 (by omega)).mono ?_; rintro e W15 ⟨rfl, hmk15, gx15, hg15, hor15, hon15⟩; have M15 : Hid True := trivial; have B_15 : Hid (Below w.heap.size w W15) := Below.only B_14.out hon15 (Nat.le_trans B_5.out.size hg15); have D_15 : Hid (Below W3.heap.size W3 W15) := Below.only D_14.out hon15 (Nat.le_trans D_5.out.size hg15); have S1_15 : Hid (W4.heap.size ≤ W15.heap.size) := Nat.le_trans S1_14.out hon15.size; have SG_15 : Hid (W5.heap.size ≤ W15.heap.size) := Nat.le_trans SG_14.out hon15.size; have MG0_15 : Hid (W15.ownsRow W5.heap.size 34 2 g0 N0 (ils (mkF (1)) (N0 * 2))) := hmk15; clear hon15 hor15 hg15)
    | (go_at_call 10; have Z := M15; (fail_if_success have := M16); refine (held2 (K := 1) MG0_15.out hN0 (by omega)).mono ?_; rintro e w' ⟨rfl, hw⟩; obtain rfl := hw.symm; have M16 : Hid True := trivial)
    | (go_at_call 6; have Z := M16; (fail_if_success have := M17); refine (copy2_own (Il2.below FV1.out B_15.out) h1).mono ?_; rintro e W17 ⟨hb17, z1_, rfl, hf17, ho17⟩; have M17 : Hid True := trivial; have B_17 : Hid (Below w.heap.size w W17) := bstep B_15.out hb17; have D_17 : Hid (Below W3.heap.size W3 W17) := bstep D_15.out hb17; have S1_17 : Hid (W4.heap.size ≤ W17.heap.size) := Nat.le_trans S1_15.out hb17.size; have SG_17 : Hid (W5.heap.size ≤ W17.heap.size) := Nat.le_trans SG_15.out hb17.size; have MG0_17 : Hid (W17.ownsRow W5.heap.size 34 2 g0 N0 (ils (mkF (1)) (N0 * 2))) := own_below MG0_15.out hb17; have Oz1__17 : Hid (W17.ownsRow W15.heap.size 34 2 z1_ n1 (ils xs1 (n1 * 2))) := ho17; clear hb17 ho17 hf17)
    | (go_at_call 6; have Z := M17; (fail_if_success have := M18); refine (copy2_own (Il2.below FV2.out B_17.out) h2).mono ?_; rintro e W18 ⟨hb18, z2_, rfl, hf18, ho18⟩; have M18 : Hid True := trivial; have B_18 : Hid (Below w.heap.size w W18) := bstep B_17.out hb18; have D_18 : Hid (Below W3.heap.size W3 W18) := bstep D_17.out hb18; have S1_18 : Hid (W4.heap.size ≤ W18.heap.size) := Nat.le_trans S1_17.out hb18.size; have SG_18 : Hid (W5.heap.size ≤ W18.heap.size) := Nat.le_trans SG_17.out hb18.size; have MG0_18 : Hid (W18.ownsRow W5.heap.size 34 2 g0 N0 (ils (mkF (1)) (N0 * 2))) := own_below MG0_17.out hb18; have Oz1__18 : Hid (W18.ownsRow W15.heap.size 34 2 z1_ n1 (ils xs1 (n1 * 2))) := own_below Oz1__17.out hb18; have Oz2__18 : Hid (W18.ownsRow W17.heap.size 34 2 z2_ n2 (ils xs2 (n2 * 2))) := ho18; clear hb18 ho18 hf18)
    | (go_at_call 7; have Z := M18; (fail_if_success have := M19); refine (HI.out _ _ _ (il2_of_own Oz1__18.out) (il2_of_own Oz2__18.out)).mono ?_; rintro e W19 ⟨h0, rfl, hoa19, hb19⟩; have M19 : Hid True := trivial; have B_19 : Hid (Below w.heap.size w W19) := bstep B_18.out hb19; have D_19 : Hid (Below W3.heap.size W3 W19) := bstep D_18.out hb19; have S1_19 : Hid (W4.heap.size ≤ W19.heap.size) := Nat.le_trans S1_18.out hb19.size; have SG_19 : Hid (W5.heap.size ≤ W19.heap.size) := Nat.le_trans SG_18.out hb19.size; have MG0_19 : Hid (W19.ownsRow W5.heap.size 34 2 g0 N0 (ils (mkF (1)) (N0 * 2))) := own_below MG0_18.out hb19; have Oz1__19 : Hid (W19.ownsRow W15.heap.size 34 2 z1_ n1 (ils xs1 (n1 * 2))) := own_below Oz1__18.out hb19; have Oz2__19 : Hid (W19.ownsRow W17.heap.size 34 2 z2_ n2 (ils xs2 (n2 * 2))) := own_below Oz2__18.out hb19; have OH0_19 : Hid (W19.ownsRow W18.heap.size 34 2 h0 N0 (ils z0 (N0 * 2))) := hoa19; clear hb19 hoa19)
    | (go_at_call 8; have Z := M19; (fail_if_success have := M20); refine (eq2_yes (il2_of_own OH0_19.out) (Il2.below FW0_3.out D_19.out) hN0).mono ?_; rintro e W20 ⟨rfl, hb20⟩; have M20 : Hid True := trivial; have B_20 : Hid (Below w.heap.size w W20) := bstep B_19.out hb20; have D_20 : Hid (Below W3.heap.size W3 W20) := bstep D_19.out hb20; have S1_20 : Hid (W4.heap.size ≤ W20.heap.size) := Nat.le_trans S1_19.out hb20.size; have SG_20 : Hid (W5.heap.size ≤ W20.heap.size) := Nat.le_trans SG_19.out hb20.size; have MG0_20 : Hid (W20.ownsRow W5.heap.size 34 2 g0 N0 (ils (mkF (1)) (N0 * 2))) := own_below MG0_19.out hb20; have Oz1__20 : Hid (W20.ownsRow W15.heap.size 34 2 z1_ n1 (ils xs1 (n1 * 2))) := own_below Oz1__19.out hb20; have Oz2__20 : Hid (W20.ownsRow W17.heap.size 34 2 z2_ n2 (ils xs2 (n2 * 2))) := own_below Oz2__19.out hb20; have OH0_20 : Hid (W20.ownsRow W18.heap.size 34 2 h0 N0 (ils z0 (N0 * 2))) := own_below OH0_19.out hb20; clear hb20)
    | (go_at_call 10; have Z := M20; (fail_if_success have := M21); refine (held2 (K := 1) MG0_20.out hN0 (by omega)).mono ?_; rintro e w' ⟨rfl, hw⟩; obtain rfl := hw.symm; have M21 : Hid True := trivial))
  go_ret
  exact ⟨rfl, B_20.out⟩

theorem walk_air {w : World} {v u : Value} {n m : Nat} {z y : Nat → Int} (hv : Il2 w v n z) (hn : n ≤ 9223372036854775807) (hu : Il2 w u m y) (hm : m ≤ 9223372036854775807) (dl q : Int) : Calls Try.prog 3 #[v, .int .i64 dl, .int .i64 q, u] w fun e w' => e = .returned (.bool true) ∧ Below w.heap.size w w' := by
  by_cases h : Gin n z m y dl q
  · obtain ⟨D, rfl⟩ : ∃ D : Nat, dl = (D : Int) := ⟨dl.toNat, by have := h.2.2.1; omega⟩
    obtain ⟨Q, rfl⟩ : ∃ Q : Nat, q = (Q : Int) := ⟨q.toNat, by have := h.2.2.2.2.1; omega⟩
    have g1 := h.1.1
    have g2 := h.2.2.2.1
    by_cases hz : D + n ≤ 4096 ∧ Pok (D + n) (airz D Q z m y)
    · refine wai_of hv hn hu hm (D + n) (by omega) (airz D Q z m y) true (fun _ _ W a b ha hb => ?_) (fun _ _ W a b ha hb => ?_)
      · have := sAir_good ha hb h; unfold Air at this; simpa only [if_pos hz] using this
      · have := iAir_good ha hb h; unfold Air at this; simpa only [if_pos hz] using this
    · refine wai_of hv hn hu hm 0 (by omega) (airz D Q z m y) false (fun _ _ W a b ha hb => ?_) (fun _ _ W a b ha hb => ?_)
      · have := sAir_good ha hb h; unfold Air at this; simpa only [if_neg hz] using this
      · have := iAir_good ha hb h; unfold Air at this; simpa only [if_neg hz] using this
  · exact wai_of hv hn hu hm 0 (by omega) (fun _ => 0) false (fun h1 h2 W a b ha hb => sAir_bad ha hb h1 h2 h _) (fun h1 h2 W a b ha hb => iAir_bad ha hb h1 h2 h _)
end Go.Proofs.Ytlcfcdpgggocnaa
