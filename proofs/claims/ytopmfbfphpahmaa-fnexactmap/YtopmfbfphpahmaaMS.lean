/- Map: the law. -/
import Derived.Test.YtopmfbfphpahmaaMR
namespace Go.Proofs.Ytopmfbfphpahmaa
open Go.RowKit

theorem own_only2 {w w' w3 : World} {B3 s s2 n m g : Nat} {e e2 : TypeId} {v x : Value} {xs L : List Value} (h : w.ownsRow w3.heap.size e s v n xs) (ho : Only g w w') (hor : x.ownBlock = some g ∨ w' = w) (hx : w3.ownsRow B3 e2 s2 x m L) : w'.ownsRow w3.heap.size e s v n xs := by
  rcases hor with hg | rfl
  · exact own_only h ho (World.ownsRow.lt hx g hg).2
  · exact h

set_option maxHeartbeats 8000000 in
theorem wmp_of {w : World} {v1 : Value} {n1 : Nat} {xs1 : Nat → Int} {x : Int} (hv1 : Il w v1 n1 xs1) (hn1 : n1 ≤ 9223372036854775807) (N0 : Nat) (hN0 : N0 ≤ 1048576) (z0 : Nat → Int) (ok : Bool)
    (hs : n1 ≤ 1048576 → ∀ W u1, Il W u1 n1 xs1 → Calls Try.prog 4 #[.int .i64 x, u1] W fun e w' => Ppk W w' e N0 z0 ok)
    (hi : n1 ≤ 1048576 → ∀ W u1, Il W u1 n1 xs1 → Calls Try.prog 6 #[.int .i64 x, u1] W fun e w' => Ppk W w' e N0 z0 ok) :
    Calls Try.prog 3 #[.int .i64 x, v1] w fun e w' => e = .returned (.bool true) ∧ Below w.heap.size w w' := by
  rcases Nat.lt_or_ge 1048576 n1 with h1 | h1
  · obtain ⟨ao1, cap1, rfl, hcap1, hc1⟩ := hv1
    clear hc1 hs hi
    go_enter Try.func3, Try.ntmps3
    go_wp2
    go_ret
    exact ⟨rfl, Below.refl _ _⟩
  have FV1 : Hid (Il w v1 n1 xs1) := hv1
  have HS : Hid (∀ W u1, Il W u1 n1 xs1 → Calls Try.prog 4 #[.int .i64 x, u1] W fun e w' => Ppk W w' e N0 z0 ok) := hs h1
  have HI : Hid (∀ W u1, Il W u1 n1 xs1 → Calls Try.prog 6 #[.int .i64 x, u1] W fun e w' => Ppk W w' e N0 z0 ok) := hi h1
  obtain ⟨ao1, cap1, rfl, hcap1, hc1⟩ := hv1
  clear hc1 hs hi
  go_enter Try.func3, Try.ntmps3
  go_wp2_with (first
    | (go_at_call 5; (fail_if_success have := M1); refine (copy_own FV1.out h1).mono ?_; rintro e W1 ⟨hb1, a1, rfl, hf1, ho1⟩; have M1 : Hid True := trivial; have B_1 : Hid (Below w.heap.size w W1) := hb1; have Oa1_1 : Hid (W1.ownsRow w.heap.size 3 1 a1 n1 (ils xs1 n1)) := ho1; clear hb1 ho1 hf1)
    | (go_at_call 4; have Z := M1; (fail_if_success have := M2); refine (HS.out _ _ (il_of_own Oa1_1.out)).mono ?_; rintro e W2 ⟨u0, rfl, hoa2, hb2⟩; have M2 : Hid True := trivial; have B_2 : Hid (Below w.heap.size w W2) := bstep B_1.out hb2; have Oa1_2 : Hid (W2.ownsRow w.heap.size 3 1 a1 n1 (ils xs1 n1)) := own_below Oa1_1.out hb2; have FW0_2 : Hid (Il2 W2 u0 N0 z0) := il2_of_own hoa2; clear hb2 hoa2)
    | (go_at_call 5; have Z := M2; (fail_if_success have := M3); refine (copy_own (Il.below FV1.out B_2.out) h1).mono ?_; rintro e W3 ⟨hb3, x1, rfl, hf3, ho3⟩; have M3 : Hid True := trivial; have B_3 : Hid (Below w.heap.size w W3) := bstep B_2.out hb3; have D_3 : Hid (Below W2.heap.size W2 W3) := hb3; have Ox1_3 : Hid (W3.ownsRow W2.heap.size 3 1 x1 n1 (ils xs1 n1)) := ho3; clear hb3 ho3 hf3)
    | (go_at_call 6; have Z := M3; (fail_if_success have := M4); refine (HI.out _ _ (il_of_own Ox1_3.out)).mono ?_; rintro e W4 ⟨g0, rfl, hoa4, hb4⟩; have M4 : Hid True := trivial; have B_4 : Hid (Below w.heap.size w W4) := bstep B_3.out hb4; have D_4 : Hid (Below W2.heap.size W2 W4) := bstep D_3.out hb4; have Ox1_4 : Hid (W4.ownsRow W2.heap.size 3 1 x1 n1 (ils xs1 n1)) := own_below Ox1_3.out hb4; have SG_4 : Hid (W3.heap.size ≤ W4.heap.size) := hb4.size; have OG0_4 : Hid (W4.ownsRow W3.heap.size 36 2 g0 N0 (ils z0 (N0 * 2))) := hoa4; clear hb4 hoa4)
    | (go_at_call 7; have Z := M4; (fail_if_success have := M5); refine (eq2_yes (il2_of_own OG0_4.out) (Il2.below FW0_2.out D_4.out) hN0).mono ?_; rintro e W5 ⟨rfl, hb5⟩; have M5 : Hid True := trivial; have B_5 : Hid (Below w.heap.size w W5) := bstep B_4.out hb5; have D_5 : Hid (Below W2.heap.size W2 W5) := bstep D_4.out hb5; have Ox1_5 : Hid (W5.ownsRow W2.heap.size 3 1 x1 n1 (ils xs1 n1)) := own_below Ox1_4.out hb5; have SG_5 : Hid (W3.heap.size ≤ W5.heap.size) := Nat.le_trans SG_4.out hb5.size; have OG0_5 : Hid (W5.ownsRow W3.heap.size 36 2 g0 N0 (ils z0 (N0 * 2))) := own_below OG0_4.out hb5; clear hb5)
    | (go_at_call 5; have Z := M5; (fail_if_success have := M6); refine (copy_own (Il.below FV1.out B_5.out) h1).mono ?_; rintro e W6 ⟨hb6, y1, rfl, hf6, ho6⟩; have M6 : Hid True := trivial; have B_6 : Hid (Below w.heap.size w W6) := bstep B_5.out hb6; have D_6 : Hid (Below W2.heap.size W2 W6) := bstep D_5.out hb6; have Ox1_6 : Hid (W6.ownsRow W2.heap.size 3 1 x1 n1 (ils xs1 n1)) := own_below Ox1_5.out hb6; have SG_6 : Hid (W3.heap.size ≤ W6.heap.size) := Nat.le_trans SG_5.out hb6.size; have OG0_6 : Hid (W6.ownsRow W3.heap.size 36 2 g0 N0 (ils z0 (N0 * 2))) := own_below OG0_5.out hb6; have Oy1_6 : Hid (W6.ownsRow W5.heap.size 3 1 y1 n1 (ils xs1 n1)) := ho6; clear hb6 ho6 hf6)
    | (go_at_call 8; have Z := M6; (fail_if_success have := M7); refine (eq_yes (il_of_own Ox1_6.out) (il_of_own Oy1_6.out) h1).mono ?_; rintro e W7 ⟨rfl, hb7⟩; have M7 : Hid True := trivial; have B_7 : Hid (Below w.heap.size w W7) := bstep B_6.out hb7; have D_7 : Hid (Below W2.heap.size W2 W7) := bstep D_6.out hb7; have Ox1_7 : Hid (W7.ownsRow W2.heap.size 3 1 x1 n1 (ils xs1 n1)) := own_below Ox1_6.out hb7; have SG_7 : Hid (W3.heap.size ≤ W7.heap.size) := Nat.le_trans SG_6.out hb7.size; have OG0_7 : Hid (W7.ownsRow W3.heap.size 36 2 g0 N0 (ils z0 (N0 * 2))) := own_below OG0_6.out hb7; have Oy1_7 : Hid (W7.ownsRow W5.heap.size 3 1 y1 n1 (ils xs1 n1)) := own_below Oy1_6.out hb7; clear hb7)
    | (go_at_call 9; have Z := M7; (fail_if_success have := M8); refine (markedF (K := 1) (B := W2.heap.size) (n := n1) (v := x1) (f := xs1) Ox1_7.out D_7.out.size h1 (by omega)).mono ?_; rintro e W8 ⟨rfl, _, gx8, hg8, hor8, hon8⟩; have M8 : Hid True := trivial; have B_8 : Hid (Below w.heap.size w W8) := Below.only B_7.out hon8 (Nat.le_trans B_2.out.size hg8); have D_8 : Hid (Below W2.heap.size W2 W8) := Below.only D_7.out hon8 (hg8); have SG_8 : Hid (W3.heap.size ≤ W8.heap.size) := Nat.le_trans SG_7.out hon8.size; have OG0_8 : Hid (W8.ownsRow W3.heap.size 36 2 g0 N0 (ils z0 (N0 * 2))) := own_only2 OG0_7.out hon8 hor8 Ox1_3.out; clear hon8 hor8 hg8)
    | (go_at_call 7; have Z := M8; (fail_if_success have := M9); refine (eq2_yes (il2_of_own OG0_8.out) (Il2.below FW0_2.out D_8.out) hN0).mono ?_; rintro e W9 ⟨rfl, hb9⟩; have M9 : Hid True := trivial; have B_9 : Hid (Below w.heap.size w W9) := bstep B_8.out hb9; have D_9 : Hid (Below W2.heap.size W2 W9) := bstep D_8.out hb9; have SG_9 : Hid (W3.heap.size ≤ W9.heap.size) := Nat.le_trans SG_8.out hb9.size; have OG0_9 : Hid (W9.ownsRow W3.heap.size 36 2 g0 N0 (ils z0 (N0 * 2))) := own_below OG0_8.out hb9; clear hb9)
    | (go_at_call 10; have Z := M9; (fail_if_success have := M10); refine (marked2 (K := 1) (B := W3.heap.size) (n := N0) (v := g0) (f := z0) OG0_9.out SG_9.out hN0 (by omega)).mono ?_; rintro e W10 ⟨rfl, hmk10, gx10, hg10, hor10, hon10⟩; have M10 : Hid True := trivial; have B_10 : Hid (Below w.heap.size w W10) := Below.only B_9.out hon10 (Nat.le_trans B_3.out.size hg10); have D_10 : Hid (Below W2.heap.size W2 W10) := Below.only D_9.out hon10 (Nat.le_trans D_3.out.size hg10); have SG_10 : Hid (W3.heap.size ≤ W10.heap.size) := Nat.le_trans SG_9.out hon10.size; have MG0_10 : Hid (W10.ownsRow W3.heap.size 36 2 g0 N0 (ils (mkF (1)) (N0 * 2))) := hmk10; clear hon10 hor10 hg10)
    | (go_at_call 11; have Z := M10; (fail_if_success have := M11); refine (held2 (K := 1) MG0_10.out hN0 (by omega)).mono ?_; rintro e w' ⟨rfl, hw⟩; obtain rfl := hw.symm; have M11 : Hid True := trivial)
    | (go_at_call 5; have Z := M11; (fail_if_success have := M12); refine (copy_own (Il.below FV1.out B_10.out) h1).mono ?_; rintro e W12 ⟨hb12, z1_, rfl, hf12, ho12⟩; have M12 : Hid True := trivial; have B_12 : Hid (Below w.heap.size w W12) := bstep B_10.out hb12; have D_12 : Hid (Below W2.heap.size W2 W12) := bstep D_10.out hb12; have SG_12 : Hid (W3.heap.size ≤ W12.heap.size) := Nat.le_trans SG_10.out hb12.size; have MG0_12 : Hid (W12.ownsRow W3.heap.size 36 2 g0 N0 (ils (mkF (1)) (N0 * 2))) := own_below MG0_10.out hb12; have Oz1__12 : Hid (W12.ownsRow W10.heap.size 3 1 z1_ n1 (ils xs1 n1)) := ho12; clear hb12 ho12 hf12)
    | (go_at_call 6; have Z := M12; (fail_if_success have := M13); refine (HI.out _ _ (il_of_own Oz1__12.out)).mono ?_; rintro e W13 ⟨h0, rfl, hoa13, hb13⟩; have M13 : Hid True := trivial; have B_13 : Hid (Below w.heap.size w W13) := bstep B_12.out hb13; have D_13 : Hid (Below W2.heap.size W2 W13) := bstep D_12.out hb13; have SG_13 : Hid (W3.heap.size ≤ W13.heap.size) := Nat.le_trans SG_12.out hb13.size; have MG0_13 : Hid (W13.ownsRow W3.heap.size 36 2 g0 N0 (ils (mkF (1)) (N0 * 2))) := own_below MG0_12.out hb13; have Oz1__13 : Hid (W13.ownsRow W10.heap.size 3 1 z1_ n1 (ils xs1 n1)) := own_below Oz1__12.out hb13; have OH0_13 : Hid (W13.ownsRow W12.heap.size 36 2 h0 N0 (ils z0 (N0 * 2))) := hoa13; clear hb13 hoa13)
    | (go_at_call 7; have Z := M13; (fail_if_success have := M14); refine (eq2_yes (il2_of_own OH0_13.out) (Il2.below FW0_2.out D_13.out) hN0).mono ?_; rintro e W14 ⟨rfl, hb14⟩; have M14 : Hid True := trivial; have B_14 : Hid (Below w.heap.size w W14) := bstep B_13.out hb14; have D_14 : Hid (Below W2.heap.size W2 W14) := bstep D_13.out hb14; have SG_14 : Hid (W3.heap.size ≤ W14.heap.size) := Nat.le_trans SG_13.out hb14.size; have MG0_14 : Hid (W14.ownsRow W3.heap.size 36 2 g0 N0 (ils (mkF (1)) (N0 * 2))) := own_below MG0_13.out hb14; have Oz1__14 : Hid (W14.ownsRow W10.heap.size 3 1 z1_ n1 (ils xs1 n1)) := own_below Oz1__13.out hb14; have OH0_14 : Hid (W14.ownsRow W12.heap.size 36 2 h0 N0 (ils z0 (N0 * 2))) := own_below OH0_13.out hb14; clear hb14)
    | (go_at_call 11; have Z := M14; (fail_if_success have := M15); refine (held2 (K := 1) MG0_14.out hN0 (by omega)).mono ?_; rintro e w' ⟨rfl, hw⟩; obtain rfl := hw.symm; have M15 : Hid True := trivial))
  go_ret
  exact ⟨rfl, B_14.out⟩

theorem walk_mp {w : World} {v : Value} {n : Nat} {xs : Nat → Int} (hv : Il w v n xs) (hn : n ≤ 9223372036854775807) (x : Int) : Calls Try.prog 3 #[.int .i64 x, v] w fun e w' => e = .returned (.bool true) ∧ Below w.heap.size w w' := by
  by_cases h : GMp n xs x
  · obtain ⟨q, rfl⟩ : ∃ q : Nat, x = ((2 * q : Nat) : Int) := ⟨(x / 2).toNat, by rcases h.2 with h9 | h9 | h9 | h9 <;> omega⟩
    have hh : Hlf q := by have h9 := h.2; unfold Wid at h9; unfold Hlf; omega
    have h5 := h.1.1
    have h6 : (n + 2 * q - 1) / (2 * q) ≤ n + 2 * q - 1 := Nat.div_le_self _ _
    have h7 : q ≤ 4 := by rcases hh with h9 | h9 | h9 | h9 <;> omega
    exact wmp_of hv hn _ (by omega) _ _ (fun _ W u hu => sMap_good hu h.1 hh rfl) (fun _ W u hu => iMap_good hu h.1 hh rfl)
  · exact wmp_of hv hn 0 (by omega) (fun _ => 0) _ (fun h' W u hu => sMap_bad hu h' h _) (fun h' W u hu => iMap_bad hu h' h _)
end Go.Proofs.Ytopmfbfphpahmaa
