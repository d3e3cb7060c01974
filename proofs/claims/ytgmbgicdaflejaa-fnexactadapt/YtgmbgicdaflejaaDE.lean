/- Adapt: the model's refusals; the law. -/
import Derived.Test.YtgmbgicdaflejaaDD
namespace Go.Proofs.Ytgmbgicdaflejaa
open Go.RowKit

set_option maxHeartbeats 4000000 in
theorem sAdapt_bad {w : World} {v1 v2 : Value} {n m : Nat} {t b : Int} {xs wt : Nat → Int} (h1 : Il w v1 n xs) (h2 : Il w v2 m wt) (hn : n ≤ 1048576) (hm : m ≤ 1048576) (h : ¬ GA t b n m xs wt) (ys zs : Nat → Int) :
    Calls Try.prog 4 #[.int .i64 t, .int .i64 b, v1, v2] w fun e w' => P3 w w' e 0 0 ys zs false := by
  have i1 := in_any t 1 64
  have i2 := in_any b 0 40
  have i3 := sWth_any h1 hn (M := 32767) (by omega)
  have i4 := sWth_any h2 hm (M := 32767) (by omega)
  have T0 : Hid _ := two_none w ys zs
  obtain ⟨ao1, cap1, rfl, hcap1, hc1⟩ := h1
  obtain ⟨ao2, cap2, rfl, hcap2, hc2⟩ := h2
  clear hc1 hc2
  by_cases t1 : 1 ≤ t ∧ t ≤ 64
  · rw [decide_eq_true t1] at i1
    by_cases b1 : 0 ≤ b ∧ b ≤ 40
    · rw [decide_eq_true b1] at i2
      by_cases n5 : n ≤ 512
      · by_cases hne : n = m
        · subst hne
          by_cases hx : Wth 32767 n xs
          · rw [decide_eq_true hx] at i3
            rw [decide_eq_false (fun hw => h ⟨⟨t1, b1⟩, ⟨⟨n5, hx⟩, n5, hw⟩, rfl⟩)] at i4
            clear h hx t1 b1
            go_enter Try.func4, Try.ntmps4
            go_wp2_with (first
              | (go_at_call 10; (with_reducible refine (i1 _).mono ?_); rintro e w' ⟨rfl, hw⟩; obtain rfl := hw.symm)
              | (go_at_call 10; (with_reducible refine (i2 _).mono ?_); rintro e w' ⟨rfl, hw⟩; obtain rfl := hw.symm)
              | (go_at_call 11; (with_reducible refine i3.mono ?_); rintro e w' ⟨rfl, hw⟩; obtain rfl := hw.symm)
              | (go_at_call 11; (with_reducible refine i4.mono ?_); rintro e w' ⟨rfl, hw⟩; obtain rfl := hw.symm))
            go_ret3
            exact ⟨_, _, rfl, T0.out.1, T0.out.2.1, T0.out.2.2.1, T0.out.2.2.2⟩
          · rw [decide_eq_false hx] at i3
            clear h hx t1 b1 i4
            go_enter Try.func4, Try.ntmps4
            go_wp2_with (first
              | (go_at_call 10; (with_reducible refine (i1 _).mono ?_); rintro e w' ⟨rfl, hw⟩; obtain rfl := hw.symm)
              | (go_at_call 10; (with_reducible refine (i2 _).mono ?_); rintro e w' ⟨rfl, hw⟩; obtain rfl := hw.symm)
              | (go_at_call 11; (with_reducible refine i3.mono ?_); rintro e w' ⟨rfl, hw⟩; obtain rfl := hw.symm))
            go_ret3
            exact ⟨_, _, rfl, T0.out.1, T0.out.2.1, T0.out.2.2.1, T0.out.2.2.2⟩
        · have hne' : ¬ ((n : Int) = (m : Int)) := by omega
          have hneb : ((n : Int) != (m : Int)) = true := bne_iff_ne.2 hne'
          clear h t1 b1 i3 i4
          go_enter Try.func4, Try.ntmps4
          go_wp2_with (first
            | (go_at_call 10; (with_reducible refine (i1 _).mono ?_); rintro e w' ⟨rfl, hw⟩; obtain rfl := hw.symm)
            | (go_at_call 10; (with_reducible refine (i2 _).mono ?_); rintro e w' ⟨rfl, hw⟩; obtain rfl := hw.symm))
          go_ret3
          exact ⟨_, _, rfl, T0.out.1, T0.out.2.1, T0.out.2.2.1, T0.out.2.2.2⟩
      · clear h t1 b1 i3 i4
        go_enter Try.func4, Try.ntmps4
        go_wp2_with (first
          | (go_at_call 10; (with_reducible refine (i1 _).mono ?_); rintro e w' ⟨rfl, hw⟩; obtain rfl := hw.symm)
          | (go_at_call 10; (with_reducible refine (i2 _).mono ?_); rintro e w' ⟨rfl, hw⟩; obtain rfl := hw.symm))
        go_ret3
        exact ⟨_, _, rfl, T0.out.1, T0.out.2.1, T0.out.2.2.1, T0.out.2.2.2⟩
    · rw [decide_eq_false b1] at i2
      clear h t1 b1 i3 i4
      go_enter Try.func4, Try.ntmps4
      go_wp2_with (first
        | (go_at_call 10; (with_reducible refine (i1 _).mono ?_); rintro e w' ⟨rfl, hw⟩; obtain rfl := hw.symm)
        | (go_at_call 10; (with_reducible refine (i2 _).mono ?_); rintro e w' ⟨rfl, hw⟩; obtain rfl := hw.symm))
      go_ret3
      exact ⟨_, _, rfl, T0.out.1, T0.out.2.1, T0.out.2.2.1, T0.out.2.2.2⟩
  · rw [decide_eq_false t1] at i1
    clear h t1 i2 i3 i4
    go_enter Try.func4, Try.ntmps4
    go_wp2_with (first
      | (go_at_call 10; (with_reducible refine (i1 _).mono ?_); rintro e w' ⟨rfl, hw⟩; obtain rfl := hw.symm))
    go_ret3
    exact ⟨_, _, rfl, T0.out.1, T0.out.2.1, T0.out.2.2.1, T0.out.2.2.2⟩

set_option maxRecDepth 20000 in
set_option maxHeartbeats 8000000 in
theorem wadapt_of {w : World} {v1 : Value} {n1 : Nat} {xs1 : Nat → Int} {v2 : Value} {n2 : Nat} {xs2 : Nat → Int} {t b : Int} (hv1 : Il w v1 n1 xs1) (hn1 : n1 ≤ 9223372036854775807) (hv2 : Il w v2 n2 xs2) (hn2 : n2 ≤ 9223372036854775807) (N0 : Nat) (hN0 : N0 ≤ 1048576) (z0 : Nat → Int) (N1 : Nat) (hN1 : N1 ≤ 1048576) (z1 : Nat → Int) (ok : Bool)
    (hs : n1 ≤ 1048576 → n2 ≤ 1048576 → ∀ W u1 u2, Il W u1 n1 xs1 → Il W u2 n2 xs2 → Calls Try.prog 4 #[.int .i64 t, .int .i64 b, u1, u2] W fun e w' => P3 W w' e N0 N1 z0 z1 ok)
    (hi : n1 ≤ 1048576 → n2 ≤ 1048576 → ∀ W u1 u2, Il W u1 n1 xs1 → Il W u2 n2 xs2 → Calls Try.prog 6 #[.int .i64 t, .int .i64 b, u1, u2] W fun e w' => P3 W w' e N0 N1 z0 z1 ok) :
    Calls Try.prog 3 #[.int .i64 t, .int .i64 b, v1, v2] w fun e w' => e = .returned (.bool true) ∧ Below w.heap.size w w' := by
  rcases Nat.lt_or_ge 1048576 n1 with h1 | h1
  · obtain ⟨ao1, cap1, rfl, hcap1, hc1⟩ := hv1
    obtain ⟨ao2, cap2, rfl, hcap2, hc2⟩ := hv2
    clear hc1 hc2 hs hi
    go_enter Try.func3, Try.ntmps3
    go_wp2
    go_ret
    exact ⟨rfl, Below.refl _ _⟩
  rcases Nat.lt_or_ge 1048576 n2 with h2 | h2
  · obtain ⟨ao1, cap1, rfl, hcap1, hc1⟩ := hv1
    obtain ⟨ao2, cap2, rfl, hcap2, hc2⟩ := hv2
    clear hc1 hc2 hs hi
    go_enter Try.func3, Try.ntmps3
    go_wp2
    go_ret
    exact ⟨rfl, Below.refl _ _⟩
  have FV1 : Hid (Il w v1 n1 xs1) := hv1
  have FV2 : Hid (Il w v2 n2 xs2) := hv2
  have HS : Hid (∀ W u1 u2, Il W u1 n1 xs1 → Il W u2 n2 xs2 → Calls Try.prog 4 #[.int .i64 t, .int .i64 b, u1, u2] W fun e w' => P3 W w' e N0 N1 z0 z1 ok) := hs h1 h2
  have HI : Hid (∀ W u1 u2, Il W u1 n1 xs1 → Il W u2 n2 xs2 → Calls Try.prog 6 #[.int .i64 t, .int .i64 b, u1, u2] W fun e w' => P3 W w' e N0 N1 z0 z1 ok) := hi h1 h2
  obtain ⟨ao1, cap1, rfl, hcap1, hc1⟩ := hv1
  obtain ⟨ao2, cap2, rfl, hcap2, hc2⟩ := hv2
  clear hc1 hc2 hs hi
  go_enter Try.func3, Try.ntmps3
  go_wp2_with (first
    | (go_at_call 5; (fail_if_success have := M1); refine (copy_own FV1.out h1).mono ?_; rintro e W1 ⟨hb1, a1, rfl, hf1, ho1⟩; have M1 : Hid True := trivial; have B_1 : Hid (Below w.heap.size w W1) := hb1; have Oa1_1 : Hid (W1.ownsRow w.heap.size 3 1 a1 n1 (ils xs1 n1)) := ho1; clear hb1 ho1 hf1)
    | (go_at_call 5; have Z := M1; (fail_if_success have := M2); refine (copy_own (Il.below FV2.out B_1.out) h2).mono ?_; rintro e W2 ⟨hb2, a2, rfl, hf2, ho2⟩; have M2 : Hid True := trivial; have B_2 : Hid (Below w.heap.size w W2) := bstep B_1.out hb2; have Oa1_2 : Hid (W2.ownsRow w.heap.size 3 1 a1 n1 (ils xs1 n1)) := own_below Oa1_1.out hb2; have Oa2_2 : Hid (W2.ownsRow W1.heap.size 3 1 a2 n2 (ils xs2 n2)) := ho2; clear hb2 ho2 hf2)
    | (go_at_call 4; have Z := M2; (fail_if_success have := M3); refine (HS.out _ _ _ (il_of_own Oa1_2.out) (il_of_own Oa2_2.out)).mono ?_; rintro e W3 ⟨u0, u1, rfl, hoa3, hob3, hap3, hb3⟩; have M3 : Hid True := trivial; have B_3 : Hid (Below w.heap.size w W3) := bstep B_2.out hb3; have Oa1_3 : Hid (W3.ownsRow w.heap.size 3 1 a1 n1 (ils xs1 n1)) := own_below Oa1_2.out hb3; have Oa2_3 : Hid (W3.ownsRow W1.heap.size 3 1 a2 n2 (ils xs2 n2)) := own_below Oa2_2.out hb3; have FW0_3 : Hid (Il W3 u0 N0 z0) := il_of_own hoa3; have FW1_3 : Hid (Il W3 u1 N1 z1) := il_of_own hob3; clear hb3 hoa3 hob3 hap3)
    | (go_at_call 5; have Z := M3; (fail_if_success have := M4); refine (copy_own (Il.below FV1.out B_3.out) h1).mono ?_; rintro e W4 ⟨hb4, x1, rfl, hf4, ho4⟩; have M4 : Hid True := trivial; have B_4 : Hid (Below w.heap.size w W4) := bstep B_3.out hb4; have D_4 : Hid (Below W3.heap.size W3 W4) := hb4; have Ox1_4 : Hid (W4.ownsRow W3.heap.size 3 1 x1 n1 (ils xs1 n1)) := ho4; clear hb4 ho4 hf4)
    | (go_at_call 5; have Z := M4; (fail_if_success have := M5); refine (copy_own (Il.below FV2.out B_4.out) h2).mono ?_; rintro e W5 ⟨hb5, x2, rfl, hf5, ho5⟩; have M5 : Hid True := trivial; have B_5 : Hid (Below w.heap.size w W5) := bstep B_4.out hb5; have D_5 : Hid (Below W3.heap.size W3 W5) := bstep D_4.out hb5; have Ox1_5 : Hid (W5.ownsRow W3.heap.size 3 1 x1 n1 (ils xs1 n1)) := own_below Ox1_4.out hb5; have S1_5 : Hid (W4.heap.size ≤ W5.heap.size) := hb5.size; have Ox2_5 : Hid (W5.ownsRow W4.heap.size 3 1 x2 n2 (ils xs2 n2)) := ho5; clear hb5 ho5 hf5)
    | (go_at_call 6; have Z := M5; (fail_if_success have := M6); refine (HI.out _ _ _ (il_of_own Ox1_5.out) (il_of_own Ox2_5.out)).mono ?_; rintro e W6 ⟨g0, g1, rfl, hoa6, hob6, hap6, hb6⟩; have M6 : Hid True := trivial; have B_6 : Hid (Below w.heap.size w W6) := bstep B_5.out hb6; have D_6 : Hid (Below W3.heap.size W3 W6) := bstep D_5.out hb6; have Ox1_6 : Hid (W6.ownsRow W3.heap.size 3 1 x1 n1 (ils xs1 n1)) := own_below Ox1_5.out hb6; have S1_6 : Hid (W4.heap.size ≤ W6.heap.size) := Nat.le_trans S1_5.out hb6.size; have Ox2_6 : Hid (W6.ownsRow W4.heap.size 3 1 x2 n2 (ils xs2 n2)) := own_below Ox2_5.out hb6; have SG_6 : Hid (W5.heap.size ≤ W6.heap.size) := hb6.size; have OG0_6 : Hid (W6.ownsRow W5.heap.size 3 1 g0 N0 (ils z0 N0)) := hoa6; have OG1_6 : Hid (W6.ownsRow W5.heap.size 3 1 g1 N1 (ils z1 N1)) := hob6; have AG_6 : Hid (Apart g0 g1) := hap6; clear hb6 hoa6 hob6 hap6)
    | (go_at_call 7; have Z := M6; (fail_if_success have := M7); refine (eq_yes (il_of_own OG0_6.out) (Il.below FW0_3.out D_6.out) hN0).mono ?_; rintro e W7 ⟨rfl, hb7⟩; have M7 : Hid True := trivial; have B_7 : Hid (Below w.heap.size w W7) := bstep B_6.out hb7; have D_7 : Hid (Below W3.heap.size W3 W7) := bstep D_6.out hb7; have Ox1_7 : Hid (W7.ownsRow W3.heap.size 3 1 x1 n1 (ils xs1 n1)) := own_below Ox1_6.out hb7; have S1_7 : Hid (W4.heap.size ≤ W7.heap.size) := Nat.le_trans S1_6.out hb7.size; have Ox2_7 : Hid (W7.ownsRow W4.heap.size 3 1 x2 n2 (ils xs2 n2)) := own_below Ox2_6.out hb7; have SG_7 : Hid (W5.heap.size ≤ W7.heap.size) := Nat.le_trans SG_6.out hb7.size; have OG0_7 : Hid (W7.ownsRow W5.heap.size 3 1 g0 N0 (ils z0 N0)) := own_below OG0_6.out hb7; have OG1_7 : Hid (W7.ownsRow W5.heap.size 3 1 g1 N1 (ils z1 N1)) := own_below OG1_6.out hb7; clear hb7)
    | (go_at_call 7; have Z := M7; (fail_if_success have := M8); refine (eq_yes (il_of_own OG1_7.out) (Il.below FW1_3.out D_7.out) hN1).mono ?_; rintro e W8 ⟨rfl, hb8⟩; have M8 : Hid True := trivial; have B_8 : Hid (Below w.heap.size w W8) := bstep B_7.out hb8; have D_8 : Hid (Below W3.heap.size W3 W8) := bstep D_7.out hb8; have Ox1_8 : Hid (W8.ownsRow W3.heap.size 3 1 x1 n1 (ils xs1 n1)) := own_below Ox1_7.out hb8; have S1_8 : Hid (W4.heap.size ≤ W8.heap.size) := Nat.le_trans S1_7.out hb8.size; have Ox2_8 : Hid (W8.ownsRow W4.heap.size 3 1 x2 n2 (ils xs2 n2)) := own_below Ox2_7.out hb8; have SG_8 : Hid (W5.heap.size ≤ W8.heap.size) := Nat.le_trans SG_7.out hb8.size; have OG0_8 : Hid (W8.ownsRow W5.heap.size 3 1 g0 N0 (ils z0 N0)) := own_below OG0_7.out hb8; have OG1_8 : Hid (W8.ownsRow W5.heap.size 3 1 g1 N1 (ils z1 N1)) := own_below OG1_7.out hb8; clear hb8)
    | (go_at_call 5; have Z := M8; (fail_if_success have := M9); refine (copy_own (Il.below FV1.out B_8.out) h1).mono ?_; rintro e W9 ⟨hb9, y1, rfl, hf9, ho9⟩; have M9 : Hid True := trivial; have B_9 : Hid (Below w.heap.size w W9) := bstep B_8.out hb9; have D_9 : Hid (Below W3.heap.size W3 W9) := bstep D_8.out hb9; have Ox1_9 : Hid (W9.ownsRow W3.heap.size 3 1 x1 n1 (ils xs1 n1)) := own_below Ox1_8.out hb9; have S1_9 : Hid (W4.heap.size ≤ W9.heap.size) := Nat.le_trans S1_8.out hb9.size; have Ox2_9 : Hid (W9.ownsRow W4.heap.size 3 1 x2 n2 (ils xs2 n2)) := own_below Ox2_8.out hb9; have SG_9 : Hid (W5.heap.size ≤ W9.heap.size) := Nat.le_trans SG_8.out hb9.size; have OG0_9 : Hid (W9.ownsRow W5.heap.size 3 1 g0 N0 (ils z0 N0)) := own_below OG0_8.out hb9; have OG1_9 : Hid (W9.ownsRow W5.heap.size 3 1 g1 N1 (ils z1 N1)) := own_below OG1_8.out hb9; have Oy1_9 : Hid (W9.ownsRow W8.heap.size 3 1 y1 n1 (ils xs1 n1)) := ho9; clear hb9 ho9 hf9)
    | (go_at_call 7; have Z := M9; (fail_if_success have := M10); refine (eq_yes (il_of_own Ox1_9.out) (il_of_own Oy1_9.out) h1).mono ?_; rintro e W10 ⟨rfl, hb10⟩; have M10 : Hid True := trivial; have B_10 : Hid (Below w.heap.size w W10) := bstep B_9.out hb10; have D_10 : Hid (Below W3.heap.size W3 W10) := bstep D_9.out hb10; have Ox1_10 : Hid (W10.ownsRow W3.heap.size 3 1 x1 n1 (ils xs1 n1)) := own_below Ox1_9.out hb10; have S1_10 : Hid (W4.heap.size ≤ W10.heap.size) := Nat.le_trans S1_9.out hb10.size; have Ox2_10 : Hid (W10.ownsRow W4.heap.size 3 1 x2 n2 (ils xs2 n2)) := own_below Ox2_9.out hb10; have SG_10 : Hid (W5.heap.size ≤ W10.heap.size) := Nat.le_trans SG_9.out hb10.size; have OG0_10 : Hid (W10.ownsRow W5.heap.size 3 1 g0 N0 (ils z0 N0)) := own_below OG0_9.out hb10; have OG1_10 : Hid (W10.ownsRow W5.heap.size 3 1 g1 N1 (ils z1 N1)) := own_below OG1_9.out hb10; have Oy1_10 : Hid (W10.ownsRow W8.heap.size 3 1 y1 n1 (ils xs1 n1)) := own_below Oy1_9.out hb10; clear hb10)
    | (go_at_call 5; have Z := M10; (fail_if_success have := M11); refine (copy_own (Il.below FV2.out B_10.out) h2).mono ?_; rintro e W11 ⟨hb11, y2, rfl, hf11, ho11⟩; have M11 : Hid True := trivial; have B_11 : Hid (Below w.heap.size w W11) := bstep B_10.out hb11; have D_11 : Hid (Below W3.heap.size W3 W11) := bstep D_10.out hb11; have Ox1_11 : Hid (W11.ownsRow W3.heap.size 3 1 x1 n1 (ils xs1 n1)) := own_below Ox1_10.out hb11; have S1_11 : Hid (W4.heap.size ≤ W11.heap.size) := Nat.le_trans S1_10.out hb11.size; have Ox2_11 : Hid (W11.ownsRow W4.heap.size 3 1 x2 n2 (ils xs2 n2)) := own_below Ox2_10.out hb11; have SG_11 : Hid (W5.heap.size ≤ W11.heap.size) := Nat.le_trans SG_10.out hb11.size; have OG0_11 : Hid (W11.ownsRow W5.heap.size 3 1 g0 N0 (ils z0 N0)) := own_below OG0_10.out hb11; have OG1_11 : Hid (W11.ownsRow W5.heap.size 3 1 g1 N1 (ils z1 N1)) := own_below OG1_10.out hb11; have Oy2_11 : Hid (W11.ownsRow W10.heap.size 3 1 y2 n2 (ils xs2 n2)) := ho11; clear hb11 ho11 hf11)
    | (go_at_call 7; have Z := M11; (fail_if_success have := M12); refine (eq_yes (il_of_own Ox2_11.out) (il_of_own Oy2_11.out) h2).mono ?_; rintro e W12 ⟨rfl, hb12⟩; have M12 : Hid True := trivial; have B_12 : Hid (Below w.heap.size w W12) := bstep B_11.out hb12; have D_12 : Hid (Below W3.heap.size W3 W12) := bstep D_11.out hb12; have Ox1_12 : Hid (W12.ownsRow W3.heap.size 3 1 x1 n1 (ils xs1 n1)) := own_below Ox1_11.out hb12; have S1_12 : Hid (W4.heap.size ≤ W12.heap.size) := Nat.le_trans S1_11.out hb12.size; have Ox2_12 : Hid (W12.ownsRow W4.heap.size 3 1 x2 n2 (ils xs2 n2)) := own_below Ox2_11.out hb12; have SG_12 : Hid (W5.heap.size ≤ W12.heap.size) := Nat.le_trans SG_11.out hb12.size; have OG0_12 : Hid (W12.ownsRow W5.heap.size 3 1 g0 N0 (ils z0 N0)) := own_below OG0_11.out hb12; have OG1_12 : Hid (W12.ownsRow W5.heap.size 3 1 g1 N1 (ils z1 N1)) := own_below OG1_11.out hb12; have Oy2_12 : Hid (W12.ownsRow W10.heap.size 3 1 y2 n2 (ils xs2 n2)) := own_below Oy2_11.out hb12; clear hb12)
    | (go_at_call 8; have Z := M12; (fail_if_success have := M13); refine (markedF (K := 1) (B := W3.heap.size) (n := n1) (v := x1) (f := xs1) Ox1_12.out D_12.out.size h1 (by omega)).mono ?_; rintro e W13 ⟨rfl, _, gx13, hg13, hor13, hon13⟩; have M13 : Hid True := trivial; have B_13 : Hid (Below w.heap.size w W13) := Below.only B_12.out hon13 (Nat.le_trans B_3.out.size hg13); have D_13 : Hid (Below W3.heap.size W3 W13) := Below.only D_12.out hon13 (hg13); have S1_13 : Hid (W4.heap.size ≤ W13.heap.size) := Nat.le_trans S1_12.out hon13.size; have Ox2_13 : Hid (W13.ownsRow W4.heap.size 3 1 x2 n2 (ils xs2 n2)) := own_only' (w3 := W4) (e := 3) (s := 1) (v := x2) (n := n2) (xs := ils xs2 n2) (x := x1) (m := n1) (L := ils xs1 n1) (B3 := W3.heap.size) Ox2_12.out hon13 hor13 Ox1_4.out; have SG_13 : Hid (W5.heap.size ≤ W13.heap.size) := Nat.le_trans SG_12.out hon13.size; have OG0_13 : Hid (W13.ownsRow W5.heap.size 3 1 g0 N0 (ils z0 N0)) := own_only' (w3 := W5) (e := 3) (s := 1) (v := g0) (n := N0) (xs := ils z0 N0) (x := x1) (m := n1) (L := ils xs1 n1) (B3 := W3.heap.size) OG0_12.out hon13 hor13 Ox1_5.out; have OG1_13 : Hid (W13.ownsRow W5.heap.size 3 1 g1 N1 (ils z1 N1)) := own_only' (w3 := W5) (e := 3) (s := 1) (v := g1) (n := N1) (xs := ils z1 N1) (x := x1) (m := n1) (L := ils xs1 n1) (B3 := W3.heap.size) OG1_12.out hon13 hor13 Ox1_5.out; clear hon13 hor13 hg13)
    | (go_at_call 8; have Z := M13; (fail_if_success have := M14); refine (markedF (K := 1 + (n1 : Int)) (B := W4.heap.size) (n := n2) (v := x2) (f := xs2) Ox2_13.out S1_13.out h2 (by omega)).mono ?_; rintro e W14 ⟨rfl, _, gx14, hg14, hor14, hon14⟩; have M14 : Hid True := trivial; have B_14 : Hid (Below w.heap.size w W14) := Below.only B_13.out hon14 (Nat.le_trans B_4.out.size hg14); have D_14 : Hid (Below W3.heap.size W3 W14) := Below.only D_13.out hon14 (Nat.le_trans D_4.out.size hg14); have S1_14 : Hid (W4.heap.size ≤ W14.heap.size) := Nat.le_trans S1_13.out hon14.size; have SG_14 : Hid (W5.heap.size ≤ W14.heap.size) := Nat.le_trans SG_13.out hon14.size; have OG0_14 : Hid (W14.ownsRow W5.heap.size 3 1 g0 N0 (ils z0 N0)) := own_only' (w3 := W5) (e := 3) (s := 1) (v := g0) (n := N0) (xs := ils z0 N0) (x := x2) (m := n2) (L := ils xs2 n2) (B3 := W4.heap.size) OG0_13.out hon14 hor14 Ox2_5.out; have OG1_14 : Hid (W14.ownsRow W5.heap.size 3 1 g1 N1 (ils z1 N1)) := own_only' (w3 := W5) (e := 3) (s := 1) (v := g1) (n := N1) (xs := ils z1 N1) (x := x2) (m := n2) (L := ils xs2 n2) (B3 := W4.heap.size) OG1_13.out hon14 hor14 Ox2_5.out; clear hon14 hor14 hg14)
    | (go_at_call 7; have Z := M14; (fail_if_success have := M15); refine (eq_yes (il_of_own OG0_14.out) (Il.below FW0_3.out D_14.out) hN0).mono ?_; rintro e W15 ⟨rfl, hb15⟩; have M15 : Hid True := trivial; have B_15 : Hid (Below w.heap.size w W15) := bstep B_14.out hb15; have D_15 : Hid (Below W3.heap.size W3 W15) := bstep D_14.out hb15; have S1_15 : Hid (W4.heap.size ≤ W15.heap.size) := Nat.le_trans S1_14.out hb15.size; have SG_15 : Hid (W5.heap.size ≤ W15.heap.size) := Nat.le_trans SG_14.out hb15.size; have OG0_15 : Hid (W15.ownsRow W5.heap.size 3 1 g0 N0 (ils z0 N0)) := own_below OG0_14.out hb15; have OG1_15 : Hid (W15.ownsRow W5.heap.size 3 1 g1 N1 (ils z1 N1)) := own_below OG1_14.out hb15; clear hb15)
    | (go_at_call 7; have Z := M15; (fail_if_success have := M16); refine (eq_yes (il_of_own OG1_15.out) (Il.below FW1_3.out D_15.out) hN1).mono ?_; rintro e W16 ⟨rfl, hb16⟩; have M16 : Hid True := trivial; have B_16 : Hid (Below w.heap.size w W16) := bstep B_15.out hb16; have D_16 : Hid (Below W3.heap.size W3 W16) := bstep D_15.out hb16; have S1_16 : Hid (W4.heap.size ≤ W16.heap.size) := Nat.le_trans S1_15.out hb16.size; have SG_16 : Hid (W5.heap.size ≤ W16.heap.size) := Nat.le_trans SG_15.out hb16.size; have OG0_16 : Hid (W16.ownsRow W5.heap.size 3 1 g0 N0 (ils z0 N0)) := own_below OG0_15.out hb16; have OG1_16 : Hid (W16.ownsRow W5.heap.size 3 1 g1 N1 (ils z1 N1)) := own_below OG1_15.out hb16; clear hb16)
    | (go_at_call 8; have Z := M16; (fail_if_success have := M17); refine (markedF (K := 1) (B := W5.heap.size) (n := N0) (v := g0) (f := z0) OG0_16.out SG_16.out hN0 (by omega)).mono ?_; rintro e W17 ⟨rfl, hmk17, gx17, hg17, hor17, hon17⟩; have M17 : Hid True := trivial; have B_17 : Hid (Below w.heap.size w W17) := Below.only B_16.out hon17 (Nat.le_trans B_5.out.size hg17); have D_17 : Hid (Below W3.heap.size W3 W17) := Below.only D_16.out hon17 (Nat.le_trans D_5.out.size hg17); have S1_17 : Hid (W4.heap.size ≤ W17.heap.size) := Nat.le_trans S1_16.out hon17.size; have SG_17 : Hid (W5.heap.size ≤ W17.heap.size) := Nat.le_trans SG_16.out hon17.size; have OG1_17 : Hid (W17.ownsRow W5.heap.size 3 1 g1 N1 (ils z1 N1)) := own_apart OG1_16.out hon17 hor17 (apart_symm AG_6.out); have MG0_17 : Hid (W17.ownsRow W5.heap.size 3 1 g0 N0 (ils (mkF (1)) N0)) := hmk17; clear hon17 hor17 hg17)
    | (go_at_call 8; have Z := M17; (fail_if_success have := M18); refine (markedF (K := 1 + (N0 : Int)) (B := W5.heap.size) (n := N1) (v := g1) (f := z1) OG1_17.out SG_17.out hN1 (by omega)).mono ?_; rintro e W18 ⟨rfl, hmk18, gx18, hg18, hor18, hon18⟩; have M18 : Hid True := trivial; have B_18 : Hid (Below w.heap.size w W18) := Below.only B_17.out hon18 (Nat.le_trans B_5.out.size hg18); have D_18 : Hid (Below W3.heap.size W3 W18) := Below.only D_17.out hon18 (Nat.le_trans D_5.out.size hg18); have S1_18 : Hid (W4.heap.size ≤ W18.heap.size) := Nat.le_trans S1_17.out hon18.size; have SG_18 : Hid (W5.heap.size ≤ W18.heap.size) := Nat.le_trans SG_17.out hon18.size; have MG0_18 : Hid (W18.ownsRow W5.heap.size 3 1 g0 N0 (ils (mkF (1)) N0)) := own_apart MG0_17.out hon18 hor18 AG_6.out; have MG1_18 : Hid (W18.ownsRow W5.heap.size 3 1 g1 N1 (ils (mkF (1 + (N0 : Int))) N1)) := hmk18; clear hon18 hor18 hg18)
    | (go_at_call 9; have Z := M18; (fail_if_success have := M19); refine (heldF (K := 1) MG0_18.out hN0 (by omega)).mono ?_; rintro e w' ⟨rfl, hw⟩; obtain rfl := hw.symm; have M19 : Hid True := trivial)
    | (go_at_call 9; have Z := M19; (fail_if_success have := M20); refine (heldF (K := 1 + (N0 : Int)) MG1_18.out hN1 (by omega)).mono ?_; rintro e w' ⟨rfl, hw⟩; obtain rfl := hw.symm; have M20 : Hid True := trivial)
    | (go_at_call 5; have Z := M20; (fail_if_success have := M21); refine (copy_own (Il.below FV1.out B_18.out) h1).mono ?_; rintro e W21 ⟨hb21, z1_, rfl, hf21, ho21⟩; have M21 : Hid True := trivial; have B_21 : Hid (Below w.heap.size w W21) := bstep B_18.out hb21; have D_21 : Hid (Below W3.heap.size W3 W21) := bstep D_18.out hb21; have S1_21 : Hid (W4.heap.size ≤ W21.heap.size) := Nat.le_trans S1_18.out hb21.size; have SG_21 : Hid (W5.heap.size ≤ W21.heap.size) := Nat.le_trans SG_18.out hb21.size; have MG0_21 : Hid (W21.ownsRow W5.heap.size 3 1 g0 N0 (ils (mkF (1)) N0)) := own_below MG0_18.out hb21; have MG1_21 : Hid (W21.ownsRow W5.heap.size 3 1 g1 N1 (ils (mkF (1 + (N0 : Int))) N1)) := own_below MG1_18.out hb21; have Oz1__21 : Hid (W21.ownsRow W18.heap.size 3 1 z1_ n1 (ils xs1 n1)) := ho21; clear hb21 ho21 hf21)
    | (go_at_call 5; have Z := M21; (fail_if_success have := M22); refine (copy_own (Il.below FV2.out B_21.out) h2).mono ?_; rintro e W22 ⟨hb22, z2_, rfl, hf22, ho22⟩; have M22 : Hid True := trivial; have B_22 : Hid (Below w.heap.size w W22) := bstep B_21.out hb22; have D_22 : Hid (Below W3.heap.size W3 W22) := bstep D_21.out hb22; have S1_22 : Hid (W4.heap.size ≤ W22.heap.size) := Nat.le_trans S1_21.out hb22.size; have SG_22 : Hid (W5.heap.size ≤ W22.heap.size) := Nat.le_trans SG_21.out hb22.size; have MG0_22 : Hid (W22.ownsRow W5.heap.size 3 1 g0 N0 (ils (mkF (1)) N0)) := own_below MG0_21.out hb22; have MG1_22 : Hid (W22.ownsRow W5.heap.size 3 1 g1 N1 (ils (mkF (1 + (N0 : Int))) N1)) := own_below MG1_21.out hb22; have Oz1__22 : Hid (W22.ownsRow W18.heap.size 3 1 z1_ n1 (ils xs1 n1)) := own_below Oz1__21.out hb22; have Oz2__22 : Hid (W22.ownsRow W21.heap.size 3 1 z2_ n2 (ils xs2 n2)) := ho22; clear hb22 ho22 hf22)
    | (go_at_call 6; have Z := M22; (fail_if_success have := M23); refine (HI.out _ _ _ (il_of_own Oz1__22.out) (il_of_own Oz2__22.out)).mono ?_; rintro e W23 ⟨h0, h1, rfl, hoa23, hob23, hap23, hb23⟩; have M23 : Hid True := trivial; have B_23 : Hid (Below w.heap.size w W23) := bstep B_22.out hb23; have D_23 : Hid (Below W3.heap.size W3 W23) := bstep D_22.out hb23; have S1_23 : Hid (W4.heap.size ≤ W23.heap.size) := Nat.le_trans S1_22.out hb23.size; have SG_23 : Hid (W5.heap.size ≤ W23.heap.size) := Nat.le_trans SG_22.out hb23.size; have MG0_23 : Hid (W23.ownsRow W5.heap.size 3 1 g0 N0 (ils (mkF (1)) N0)) := own_below MG0_22.out hb23; have MG1_23 : Hid (W23.ownsRow W5.heap.size 3 1 g1 N1 (ils (mkF (1 + (N0 : Int))) N1)) := own_below MG1_22.out hb23; have Oz1__23 : Hid (W23.ownsRow W18.heap.size 3 1 z1_ n1 (ils xs1 n1)) := own_below Oz1__22.out hb23; have Oz2__23 : Hid (W23.ownsRow W21.heap.size 3 1 z2_ n2 (ils xs2 n2)) := own_below Oz2__22.out hb23; have OH0_23 : Hid (W23.ownsRow W22.heap.size 3 1 h0 N0 (ils z0 N0)) := hoa23; have OH1_23 : Hid (W23.ownsRow W22.heap.size 3 1 h1 N1 (ils z1 N1)) := hob23; clear hb23 hoa23 hob23 hap23)
    | (go_at_call 7; have Z := M23; (fail_if_success have := M24); refine (eq_yes (il_of_own OH0_23.out) (Il.below FW0_3.out D_23.out) hN0).mono ?_; rintro e W24 ⟨rfl, hb24⟩; have M24 : Hid True := trivial; have B_24 : Hid (Below w.heap.size w W24) := bstep B_23.out hb24; have D_24 : Hid (Below W3.heap.size W3 W24) := bstep D_23.out hb24; have S1_24 : Hid (W4.heap.size ≤ W24.heap.size) := Nat.le_trans S1_23.out hb24.size; have SG_24 : Hid (W5.heap.size ≤ W24.heap.size) := Nat.le_trans SG_23.out hb24.size; have MG0_24 : Hid (W24.ownsRow W5.heap.size 3 1 g0 N0 (ils (mkF (1)) N0)) := own_below MG0_23.out hb24; have MG1_24 : Hid (W24.ownsRow W5.heap.size 3 1 g1 N1 (ils (mkF (1 + (N0 : Int))) N1)) := own_below MG1_23.out hb24; have Oz1__24 : Hid (W24.ownsRow W18.heap.size 3 1 z1_ n1 (ils xs1 n1)) := own_below Oz1__23.out hb24; have Oz2__24 : Hid (W24.ownsRow W21.heap.size 3 1 z2_ n2 (ils xs2 n2)) := own_below Oz2__23.out hb24; have OH0_24 : Hid (W24.ownsRow W22.heap.size 3 1 h0 N0 (ils z0 N0)) := own_below OH0_23.out hb24; have OH1_24 : Hid (W24.ownsRow W22.heap.size 3 1 h1 N1 (ils z1 N1)) := own_below OH1_23.out hb24; clear hb24)
    | (go_at_call 7; have Z := M24; (fail_if_success have := M25); refine (eq_yes (il_of_own OH1_24.out) (Il.below FW1_3.out D_24.out) hN1).mono ?_; rintro e W25 ⟨rfl, hb25⟩; have M25 : Hid True := trivial; have B_25 : Hid (Below w.heap.size w W25) := bstep B_24.out hb25; have D_25 : Hid (Below W3.heap.size W3 W25) := bstep D_24.out hb25; have S1_25 : Hid (W4.heap.size ≤ W25.heap.size) := Nat.le_trans S1_24.out hb25.size; have SG_25 : Hid (W5.heap.size ≤ W25.heap.size) := Nat.le_trans SG_24.out hb25.size; have MG0_25 : Hid (W25.ownsRow W5.heap.size 3 1 g0 N0 (ils (mkF (1)) N0)) := own_below MG0_24.out hb25; have MG1_25 : Hid (W25.ownsRow W5.heap.size 3 1 g1 N1 (ils (mkF (1 + (N0 : Int))) N1)) := own_below MG1_24.out hb25; have Oz1__25 : Hid (W25.ownsRow W18.heap.size 3 1 z1_ n1 (ils xs1 n1)) := own_below Oz1__24.out hb25; have Oz2__25 : Hid (W25.ownsRow W21.heap.size 3 1 z2_ n2 (ils xs2 n2)) := own_below Oz2__24.out hb25; have OH0_25 : Hid (W25.ownsRow W22.heap.size 3 1 h0 N0 (ils z0 N0)) := own_below OH0_24.out hb25; have OH1_25 : Hid (W25.ownsRow W22.heap.size 3 1 h1 N1 (ils z1 N1)) := own_below OH1_24.out hb25; clear hb25)
    | (go_at_call 9; have Z := M25; (fail_if_success have := M26); refine (heldF (K := 1) MG0_25.out hN0 (by omega)).mono ?_; rintro e w' ⟨rfl, hw⟩; obtain rfl := hw.symm; have M26 : Hid True := trivial)
    | (go_at_call 9; have Z := M26; (fail_if_success have := M27); refine (heldF (K := 1 + (N0 : Int)) MG1_25.out hN1 (by omega)).mono ?_; rintro e w' ⟨rfl, hw⟩; obtain rfl := hw.symm; have M27 : Hid True := trivial))
  go_ret
  exact ⟨rfl, B_25.out⟩

theorem walk_adapt {w : World} {v1 v2 : Value} {n m : Nat} {xs wt : Nat → Int} (t b : Int) (h1 : Il w v1 n xs) (hn : n ≤ 9223372036854775807) (h2 : Il w v2 m wt) (hm : m ≤ 9223372036854775807) : Calls Try.prog 3 #[.int .i64 t, .int .i64 b, v1, v2] w fun e w' => e = .returned (.bool true) ∧ Below w.heap.size w w' := by
  by_cases h : GA t b n m xs wt
  · obtain ⟨⟨ht, hb⟩, ⟨hx, hw⟩, rfl⟩ := h
    obtain ⟨k, rfl⟩ : ∃ k : Nat, t = (k : Int) := ⟨t.toNat, by omega⟩
    have h5 := hx.1
    exact wadapt_of h1 hn h2 hm n (by omega) _ k (by omega) _ _ (fun _ _ W u v hu hv => sAdapt_good hu hv hx hw (by omega) (by omega) hb) (fun _ _ W u v hu hv => iAdapt_good hu hv hx hw (by omega) (by omega) hb)
  · exact wadapt_of h1 hn h2 hm 0 (by omega) (fun _ => 0) 0 (by omega) (fun _ => 0) _ (fun a c W u v hu hv => sAdapt_bad hu hv a c h _ _) (fun a c W u v hu hv => iAdapt_bad hu hv a c h _ _)

end Go.Proofs.Ytgmbgicdaflejaa
