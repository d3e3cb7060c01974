/- Walsh: the program, and the law. -/
import Derived.Test.YtklcgnhckjooiaaW2
import Derived.BigRegion
import Derived.Test.YtklcgnhckjooiaaK6
namespace Go.Proofs.Ytklcgnhckjooiaa
open Go.RowKit

/-- How great a number is behind some rounds. -/
def wInv (r : Nat) (x : Int) : Prop := -1000000000 * 2 ^ r ≤ x ∧ x ≤ 1000000000 * 2 ^ r

theorem pow_le {r m : Nat} (h : r < m) (hm : m ≤ 8) : (2 : Int) ^ r ≤ 128 := by
  have : r = 0 ∨ r = 1 ∨ r = 2 ∨ r = 3 ∨ r = 4 ∨ r = 5 ∨ r = 6 ∨ r = 7 := by omega
  rcases this with rfl | rfl | rfl | rfl | rfl | rfl | rfl | rfl <;> decide

theorem meet_any {a b : Int} {t : Nat} (ha : -128000000000 ≤ a ∧ a ≤ 128000000000) (hb : -128000000000 ≤ b ∧ b ≤ 128000000000) (w : World) :
    Calls Try.prog 25 #[.int .i64 a, .int .i64 b, .int .i64 t] w fun e w' => e = .returned (.tuple #[.int .i64 (wmf a b t).1, .int .i64 (wmf a b t).2]) ∧ w' = w := by
  unfold wmf
  go_enter Try.func25, Try.ntmps25
  go_wp2
  go_ret2
  exact ⟨rfl, rfl⟩

set_option maxHeartbeats 2000000 in
theorem iWalsh_yes {w : World} {v : Value} {n m : Nat} {xs : Nat → Int} (hv : Il w v n xs) (hg : GW n xs) (hm : m ≤ 8) (hn : n = 2 ^ m) :
    Calls Try.prog 9 #[v] w fun e w' => Pst w w' e n (wlv m xs) true := by
  have hb := hg.2.bounds
  have i1 := iSig_any hv (by omega)
  have i2 := iWhl_any n
  rw [decide_eq_true hg.1] at i1
  rw [decide_eq_true hg.2] at i2
  have i3 := clone_any hv (by omega) (by omega)
  have i4 : Hid (∀ W u, W.ownsRow w.heap.size 3 1 u n (ils xs n) → Below w.heap.size w W → Calls Try.prog 24 #[u, .func (.func 25) #[] #[]] W fun e w' => e = .returned (.tuple #[]) ∧ w'.ownsRow w.heap.size 3 1 u n (ils (wlv m xs) n) ∧ Below w.heap.size w w') := by
    intro W u hrow hbl
    have hrow' := hrow
    rcases hrow.2 with ⟨rfl, h0⟩ | ⟨g, cap, cur, rfl, hbg, hgg, _⟩
    · exfalso; omega
    · refine (trf_any (mf := wmf) wInv hm hn (fun W => len_whl hm hn W) hrow' (fun t ht => by unfold wInv; have := hg.1.2 t ht; unfold Smp at this; simp; omega) ?_ ?_).mono ?_
      · intro W' _ r a b t hr _ ha hb'
        have := pow_le hr hm
        unfold wInv at ha hb'
        exact meet_any (by omega) (by omega) W'
      · intro r a b t hr _ ha hb'
        unfold wInv at ha hb' ⊢
        unfold wmf
        rw [Int.pow_succ]
        show (_ ≤ a + b ∧ a + b ≤ _) ∧ (_ ≤ a - b ∧ a - b ≤ _)
        omega
      · rintro e w' ⟨rfl, h1, hon⟩
        refine ⟨rfl, ?_, Below.only hbl hon hbg⟩
        rw [← ils_congr (f := trf wmf n xs m) (fun k hk => by rw [hn]; exact walsh_whole (by rw [← hn]; exact hk))]
        exact h1
  obtain ⟨ao1, cap1, rfl, hcap1, hc1⟩ := hv
  clear hc1 hg hn
  go_enter Try.func9, Try.ntmps9
  go_wp2_with (first | (go_at_call 21; (with_reducible refine (i1).mono ?_); rintro e w' ⟨rfl, hw⟩; obtain rfl := hw.symm) | (go_at_call 22; (with_reducible refine (i2 _).mono ?_); rintro e w' ⟨rfl, hw⟩; obtain rfl := hw.symm) | (go_at_call 23; (with_reducible refine (i3).mono ?_); rintro e w1 ⟨u, rfl, hr1, hb1⟩; have R1 : Hid (w1.ownsRow w.heap.size 3 1 u n (ils xs n)) := hr1; have B1 : Hid (Below w.heap.size w w1) := hb1; clear hr1 hb1) | (go_at_call 24; refine (i4.out _ _ R1.out B1.out).mono ?_; rintro e w2 ⟨rfl, hr2, hb2⟩; have R2 : Hid _ := hr2; have B2 : Hid _ := hb2; clear hr2 hb2))
  go_ret2
  exact ⟨_, rfl, R2.out, B2.out⟩

set_option maxHeartbeats 4000000 in
theorem wwalsh_of {w : World} {v1 : Value} {n1 : Nat} {xs1 : Nat → Int}  (hv1 : Il w v1 n1 xs1) (hn1 : n1 ≤ 9223372036854775807) (N : Nat) (hN : N ≤ 1048576) (zs : Nat → Int) (ok : Bool)
    (hs : n1 ≤ 1048576 → ∀ W u1, Il W u1 n1 xs1 → Calls Try.prog 7 #[u1] W fun e w' => Pst W w' e N zs ok)
    (hi : n1 ≤ 1048576 → ∀ W u1, Il W u1 n1 xs1 → Calls Try.prog 9 #[u1] W fun e w' => Pst W w' e N zs ok) :
    Calls Try.prog 3 #[v1] w fun e w' => e = .returned (.bool true) ∧ Below w.heap.size w w' := by
  rcases Nat.lt_or_ge 1048576 n1 with h1 | h1
  · obtain ⟨ao1, cap1, rfl, hcap1, hc1⟩ := hv1
    clear hc1 hs hi
    go_enter Try.func3, Try.ntmps3
    go_wp2
    go_ret
    exact ⟨rfl, Below.refl _ _⟩
  have FV1 : Hid (Il w v1 n1 xs1) := hv1
  have HS : Hid (∀ W u1, Il W u1 n1 xs1 → Calls Try.prog 7 #[u1] W fun e w' => Pst W w' e N zs ok) := hs h1
  have HI : Hid (∀ W u1, Il W u1 n1 xs1 → Calls Try.prog 9 #[u1] W fun e w' => Pst W w' e N zs ok) := hi h1
  obtain ⟨ao1, cap1, rfl, hcap1, hc1⟩ := hv1
  clear hc1 hs hi
  go_enter Try.func3, Try.ntmps3
  go_wp2_with (first
    | (go_at_call 8; (fail_if_success have := M1); refine (copy_own FV1.out h1).mono ?_; rintro e W1 ⟨hb1, a1, rfl, hf1, ho1⟩; have M1 : Hid True := trivial; have B_1 : Hid (Below w.heap.size w W1) := hb1; have Oa1_1 : Hid (W1.ownsRow w.heap.size 3 1 a1 n1 (ils xs1 n1)) := ho1; clear hb1 ho1 hf1)
    | (go_at_call 7; have Z := M1; (fail_if_success have := M2); refine (HS.out _ _ (il_of_own Oa1_1.out)).mono ?_; rintro e W2 ⟨u0, rfl, ho2, hb2⟩; have M2 : Hid True := trivial; have B_2 : Hid (Below w.heap.size w W2) := bstep B_1.out hb2; have Oa1_2 : Hid (W2.ownsRow w.heap.size 3 1 a1 n1 (ils xs1 n1)) := own_below Oa1_1.out hb2; have FW_2 : Hid (Il W2 u0 N zs) := il_of_own ho2; clear hb2 ho2)
    | (go_at_call 8; have Z := M2; (fail_if_success have := M3); refine (copy_own (Il.below FV1.out B_2.out) h1).mono ?_; rintro e W3 ⟨hb3, x1, rfl, hf3, ho3⟩; have M3 : Hid True := trivial; have B_3 : Hid (Below w.heap.size w W3) := bstep B_2.out hb3; have D_3 : Hid (Below W2.heap.size W2 W3) := hb3; have Ox1_3 : Hid (W3.ownsRow W2.heap.size 3 1 x1 n1 (ils xs1 n1)) := ho3; clear hb3 ho3 hf3)
    | (go_at_call 9; have Z := M3; (fail_if_success have := M4); refine (HI.out _ _ (il_of_own Ox1_3.out)).mono ?_; rintro e W4 ⟨g0, rfl, ho4, hb4⟩; have M4 : Hid True := trivial; have B_4 : Hid (Below w.heap.size w W4) := bstep B_3.out hb4; have D_4 : Hid (Below W2.heap.size W2 W4) := bstep D_3.out hb4; have Ox1_4 : Hid (W4.ownsRow W2.heap.size 3 1 x1 n1 (ils xs1 n1)) := own_below Ox1_3.out hb4; have SG_4 : Hid (W3.heap.size ≤ W4.heap.size) := hb4.size; have OG_4 : Hid (W4.ownsRow W3.heap.size 3 1 g0 N (ils zs N)) := ho4; clear hb4 ho4)
    | (go_at_call 10; have Z := M4; (fail_if_success have := M5); refine (eq_yes (il_of_own OG_4.out) (Il.below FW_2.out D_4.out) hN).mono ?_; rintro e W5 ⟨rfl, hb5⟩; have M5 : Hid True := trivial; have B_5 : Hid (Below w.heap.size w W5) := bstep B_4.out hb5; have D_5 : Hid (Below W2.heap.size W2 W5) := bstep D_4.out hb5; have Ox1_5 : Hid (W5.ownsRow W2.heap.size 3 1 x1 n1 (ils xs1 n1)) := own_below Ox1_4.out hb5; have SG_5 : Hid (W3.heap.size ≤ W5.heap.size) := Nat.le_trans SG_4.out hb5.size; have OG_5 : Hid (W5.ownsRow W3.heap.size 3 1 g0 N (ils zs N)) := own_below OG_4.out hb5; clear hb5)
    | (go_at_call 8; have Z := M5; (fail_if_success have := M6); refine (copy_own (Il.below FV1.out B_5.out) h1).mono ?_; rintro e W6 ⟨hb6, y1, rfl, hf6, ho6⟩; have M6 : Hid True := trivial; have B_6 : Hid (Below w.heap.size w W6) := bstep B_5.out hb6; have D_6 : Hid (Below W2.heap.size W2 W6) := bstep D_5.out hb6; have Ox1_6 : Hid (W6.ownsRow W2.heap.size 3 1 x1 n1 (ils xs1 n1)) := own_below Ox1_5.out hb6; have SG_6 : Hid (W3.heap.size ≤ W6.heap.size) := Nat.le_trans SG_5.out hb6.size; have OG_6 : Hid (W6.ownsRow W3.heap.size 3 1 g0 N (ils zs N)) := own_below OG_5.out hb6; have Oy1_6 : Hid (W6.ownsRow W5.heap.size 3 1 y1 n1 (ils xs1 n1)) := ho6; clear hb6 ho6 hf6)
    | (go_at_call 10; have Z := M6; (fail_if_success have := M7); refine (eq_yes (il_of_own Ox1_6.out) (il_of_own Oy1_6.out) h1).mono ?_; rintro e W7 ⟨rfl, hb7⟩; have M7 : Hid True := trivial; have B_7 : Hid (Below w.heap.size w W7) := bstep B_6.out hb7; have D_7 : Hid (Below W2.heap.size W2 W7) := bstep D_6.out hb7; have Ox1_7 : Hid (W7.ownsRow W2.heap.size 3 1 x1 n1 (ils xs1 n1)) := own_below Ox1_6.out hb7; have SG_7 : Hid (W3.heap.size ≤ W7.heap.size) := Nat.le_trans SG_6.out hb7.size; have OG_7 : Hid (W7.ownsRow W3.heap.size 3 1 g0 N (ils zs N)) := own_below OG_6.out hb7; have Oy1_7 : Hid (W7.ownsRow W5.heap.size 3 1 y1 n1 (ils xs1 n1)) := own_below Oy1_6.out hb7; clear hb7)
    | (go_at_call 11; have Z := M7; (fail_if_success have := M8); refine (markedK (K := 1) (B := W2.heap.size) (n := n1) (v := x1) (f := xs1) Ox1_7.out D_7.out.size h1 (by omega)).mono ?_; rintro e W8 ⟨rfl, _, gx8, hg8, hor8, hon8⟩; have M8 : Hid True := trivial; have B_8 : Hid (Below w.heap.size w W8) := Below.only B_7.out hon8 (Nat.le_trans B_2.out.size hg8); have D_8 : Hid (Below W2.heap.size W2 W8) := Below.only D_7.out hon8 (hg8); have SG_8 : Hid (W3.heap.size ≤ W8.heap.size) := Nat.le_trans SG_7.out hon8.size; have OG_8 : Hid (W8.ownsRow W3.heap.size 3 1 g0 N (ils zs N)) := own_only' (w3 := W3) (e := 3) (s := 1) (v := g0) (n := N) (xs := ils zs N) (x := x1) (m := n1) (L := ils xs1 n1) (B3 := W2.heap.size) OG_7.out hon8 hor8 Ox1_3.out; clear hon8 hor8 hg8)
    | (go_at_call 10; have Z := M8; (fail_if_success have := M9); refine (eq_yes (il_of_own OG_8.out) (Il.below FW_2.out D_8.out) hN).mono ?_; rintro e W9 ⟨rfl, hb9⟩; have M9 : Hid True := trivial; have B_9 : Hid (Below w.heap.size w W9) := bstep B_8.out hb9; have D_9 : Hid (Below W2.heap.size W2 W9) := bstep D_8.out hb9; have SG_9 : Hid (W3.heap.size ≤ W9.heap.size) := Nat.le_trans SG_8.out hb9.size; have OG_9 : Hid (W9.ownsRow W3.heap.size 3 1 g0 N (ils zs N)) := own_below OG_8.out hb9; clear hb9)
    | (go_at_call 11; have Z := M9; (fail_if_success have := M10); refine (marked (B := W3.heap.size) (n := N) (v := g0) (f := zs) OG_9.out SG_9.out hN).mono ?_; rintro e W10 ⟨rfl, hmk10, gx10, hg10, hor10, hon10⟩; have M10 : Hid True := trivial; have B_10 : Hid (Below w.heap.size w W10) := Below.only B_9.out hon10 (Nat.le_trans B_3.out.size hg10); have D_10 : Hid (Below W2.heap.size W2 W10) := Below.only D_9.out hon10 (Nat.le_trans D_3.out.size hg10); have SG_10 : Hid (W3.heap.size ≤ W10.heap.size) := Nat.le_trans SG_9.out hon10.size; have MG_10 : Hid (W10.ownsRow W3.heap.size 3 1 g0 N (ils mks N)) := hmk10; clear hon10 hor10 hg10)
    | (go_at_call 12; have Z := M10; (fail_if_success have := M11); refine (held MG_10.out hN).mono ?_; rintro e w' ⟨rfl, hw⟩; obtain rfl := hw.symm; have M11 : Hid True := trivial)
    | (go_at_call 8; have Z := M11; (fail_if_success have := M12); refine (copy_own (Il.below FV1.out B_10.out) h1).mono ?_; rintro e W12 ⟨hb12, z1, rfl, hf12, ho12⟩; have M12 : Hid True := trivial; have B_12 : Hid (Below w.heap.size w W12) := bstep B_10.out hb12; have D_12 : Hid (Below W2.heap.size W2 W12) := bstep D_10.out hb12; have SG_12 : Hid (W3.heap.size ≤ W12.heap.size) := Nat.le_trans SG_10.out hb12.size; have MG_12 : Hid (W12.ownsRow W3.heap.size 3 1 g0 N (ils mks N)) := own_below MG_10.out hb12; have Oz1_12 : Hid (W12.ownsRow W10.heap.size 3 1 z1 n1 (ils xs1 n1)) := ho12; clear hb12 ho12 hf12)
    | (go_at_call 9; have Z := M12; (fail_if_success have := M13); refine (HI.out _ _ (il_of_own Oz1_12.out)).mono ?_; rintro e W13 ⟨h0, rfl, ho13, hb13⟩; have M13 : Hid True := trivial; have B_13 : Hid (Below w.heap.size w W13) := bstep B_12.out hb13; have D_13 : Hid (Below W2.heap.size W2 W13) := bstep D_12.out hb13; have SG_13 : Hid (W3.heap.size ≤ W13.heap.size) := Nat.le_trans SG_12.out hb13.size; have MG_13 : Hid (W13.ownsRow W3.heap.size 3 1 g0 N (ils mks N)) := own_below MG_12.out hb13; have Oz1_13 : Hid (W13.ownsRow W10.heap.size 3 1 z1 n1 (ils xs1 n1)) := own_below Oz1_12.out hb13; have OH_13 : Hid (W13.ownsRow W12.heap.size 3 1 h0 N (ils zs N)) := ho13; clear hb13 ho13)
    | (go_at_call 10; have Z := M13; (fail_if_success have := M14); refine (eq_yes (il_of_own OH_13.out) (Il.below FW_2.out D_13.out) hN).mono ?_; rintro e W14 ⟨rfl, hb14⟩; have M14 : Hid True := trivial; have B_14 : Hid (Below w.heap.size w W14) := bstep B_13.out hb14; have D_14 : Hid (Below W2.heap.size W2 W14) := bstep D_13.out hb14; have SG_14 : Hid (W3.heap.size ≤ W14.heap.size) := Nat.le_trans SG_13.out hb14.size; have MG_14 : Hid (W14.ownsRow W3.heap.size 3 1 g0 N (ils mks N)) := own_below MG_13.out hb14; have Oz1_14 : Hid (W14.ownsRow W10.heap.size 3 1 z1 n1 (ils xs1 n1)) := own_below Oz1_13.out hb14; have OH_14 : Hid (W14.ownsRow W12.heap.size 3 1 h0 N (ils zs N)) := own_below OH_13.out hb14; clear hb14)
    | (go_at_call 12; have Z := M14; (fail_if_success have := M15); refine (held MG_14.out hN).mono ?_; rintro e w' ⟨rfl, hw⟩; obtain rfl := hw.symm; have M15 : Hid True := trivial))
  go_ret
  exact ⟨rfl, B_14.out⟩

theorem walk_walsh {w : World} {v1 : Value} {n1 : Nat} {xs1 : Nat → Int} (hv1 : Il w v1 n1 xs1) (hn1 : n1 ≤ 9223372036854775807) : Calls Try.prog 3 #[v1] w fun e w' => e = .returned (.bool true) ∧ Below w.heap.size w w' := by
  by_cases hg : GW n1 xs1
  · have hb := hg.2.bounds
    obtain ⟨m, hm, hn⟩ := hg.2.pow
    exact wwalsh_of hv1 hn1 n1 (by omega) (wlv m xs1) true (fun _ W u1 a => sWalsh_yes a hg hm hn) (fun _ W u1 a => iWalsh_yes a hg hm hn)
  · exact wwalsh_of hv1 hn1 0 (by omega) (fun _ => 0) false (fun h1 W u1 a => sWalsh_no a h1 hg _) (fun h1 W u1 a => iWalsh_no a h1 hg _)
end Go.Proofs.Ytklcgnhckjooiaa
