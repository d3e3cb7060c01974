/- WiresOk: the law. -/
import Derived.Test.YtlccicbgepfbbaaWE
namespace Go.Proofs.Ytlccicbgepfbbaa
open Go.RowKit

theorem own_only2 {w w' w3 : World} {B3 s s2 n m g : Nat} {e e2 : TypeId} {v x : Value} {xs L : List Value} (h : w.ownsRow w3.heap.size e s v n xs) (ho : Only g w w') (hor : x.ownBlock = some g ∨ w' = w) (hx : w3.ownsRow B3 e2 s2 x m L) : w'.ownsRow w3.heap.size e s v n xs := by
  rcases hor with hg | rfl
  · exact own_only h ho (World.ownsRow.lt hx g hg).2
  · exact h

set_option maxRecDepth 20000 in
set_option maxHeartbeats 8000000 in
theorem law_wok {w : World} {v1 : Value} {n1 : Nat} {xs1 : Nat → Wr} (n : Int) (hv1 : Il5 w v1 n1 xs1) (hn1 : n1 ≤ 9223372036854775807)  (d : Bool)
    (hs : n1 ≤ 1048576 → ∀ W u1, Il5 W u1 n1 xs1 → Calls Try.prog 29 #[.int .i64 n, u1] W fun e w' => e = .returned (.bool d) ∧ Below W.heap.size W w')
    (hi : n1 ≤ 1048576 → ∀ W u1, Il5 W u1 n1 xs1 → Calls Try.prog 31 #[.int .i64 n, u1] W fun e w' => e = .returned (.bool d) ∧ Below W.heap.size W w') :
    Calls Try.prog 6 #[.int .i64 n, v1] w fun e w' => e = .returned (.bool true) ∧ Below w.heap.size w w' := by
  rcases Nat.lt_or_ge 1048576 n1 with h1 | h1
  · obtain ⟨ao1, cap1, rfl, hcap1, hc1⟩ := hv1
    clear hc1 hs hi
    have hz := sz5_any w ao1 n1 cap1 hn1
    rw [if_neg (by omega)] at hz
    go_enter Try.func6, Try.ntmps6
    go_wp2_with (go_at_call 28; (with_reducible refine hz.mono ?_); rintro e w' ⟨rfl, hw⟩; obtain rfl := hw.symm)
    go_ret
    exact ⟨rfl, Below.refl _ _⟩
  have FV1 : Hid (Il5 w v1 n1 xs1) := hv1
  have HS : Hid (∀ W u1, Il5 W u1 n1 xs1 → Calls Try.prog 29 #[.int .i64 n, u1] W fun e w' => e = .returned (.bool d) ∧ Below W.heap.size W w') := hs h1
  have HI : Hid (∀ W u1, Il5 W u1 n1 xs1 → Calls Try.prog 31 #[.int .i64 n, u1] W fun e w' => e = .returned (.bool d) ∧ Below W.heap.size W w') := hi h1
  obtain ⟨ao1, cap1, rfl, hcap1, hc1⟩ := hv1
  have hz := sz5_any w ao1 n1 cap1 hn1
  rw [if_pos h1] at hz
  clear hc1 hs hi
  go_enter Try.func6, Try.ntmps6
  go_wp2_with (first
    | (go_at_call 28; (with_reducible refine hz.mono ?_); rintro e w' ⟨rfl, hw⟩; obtain rfl := hw.symm; clear hz)
    | (go_at_call 30; (fail_if_success have := M1); refine (copy5 FV1.out h1).mono ?_; rintro e W1 ⟨hb1, a1, rfl, ho1⟩; have M1 : Hid True := trivial; have B_1 : Hid (Below w.heap.size w W1) := hb1; have Oa1_1 : Hid (W1.ownsRow w.heap.size 31 5 a1 n1 (ils (zs xs1) (n1 * 5))) := ho1; clear hb1 ho1)
    | (go_at_call 29; have Z := M1; (fail_if_success have := M2); refine (HS.out _ _ (il5_of_own Oa1_1.out)).mono ?_; rintro e W2 ⟨rfl, hb2⟩; have M2 : Hid True := trivial; have B_2 : Hid (Below w.heap.size w W2) := bstep B_1.out hb2; have Oa1_2 : Hid (W2.ownsRow w.heap.size 31 5 a1 n1 (ils (zs xs1) (n1 * 5))) := own_below Oa1_1.out hb2; clear hb2)
    | (go_at_call 30; have Z := M2; (fail_if_success have := M3); refine (copy5 (Il5.below FV1.out B_2.out) h1).mono ?_; rintro e W3 ⟨hb3, x1, rfl, ho3⟩; have M3 : Hid True := trivial; have B_3 : Hid (Below w.heap.size w W3) := bstep B_2.out hb3; have D_3 : Hid (Below W2.heap.size W2 W3) := hb3; have Ox1_3 : Hid (W3.ownsRow W2.heap.size 31 5 x1 n1 (ils (zs xs1) (n1 * 5))) := ho3; clear hb3 ho3)
    | (go_at_call 31; have Z := M3; (fail_if_success have := M4); refine (HI.out _ _ (il5_of_own Ox1_3.out)).mono ?_; rintro e W4 ⟨rfl, hb4⟩; have M4 : Hid True := trivial; have B_4 : Hid (Below w.heap.size w W4) := bstep B_3.out hb4; have D_4 : Hid (Below W2.heap.size W2 W4) := bstep D_3.out hb4; have Ox1_4 : Hid (W4.ownsRow W2.heap.size 31 5 x1 n1 (ils (zs xs1) (n1 * 5))) := own_below Ox1_3.out hb4; have SG_4 : Hid (W3.heap.size ≤ W4.heap.size) := hb4.size; clear hb4)
    | (go_at_call 30; have Z := M4; (fail_if_success have := M5); refine (copy5 (Il5.below FV1.out B_4.out) h1).mono ?_; rintro e W5 ⟨hb5, y1, rfl, ho5⟩; have M5 : Hid True := trivial; have B_5 : Hid (Below w.heap.size w W5) := bstep B_4.out hb5; have D_5 : Hid (Below W2.heap.size W2 W5) := bstep D_4.out hb5; have Ox1_5 : Hid (W5.ownsRow W2.heap.size 31 5 x1 n1 (ils (zs xs1) (n1 * 5))) := own_below Ox1_4.out hb5; have SG_5 : Hid (W3.heap.size ≤ W5.heap.size) := Nat.le_trans SG_4.out hb5.size; have Oy1_5 : Hid (W5.ownsRow W4.heap.size 31 5 y1 n1 (ils (zs xs1) (n1 * 5))) := ho5; clear hb5 ho5)
    | (go_at_call 32; have Z := M5; (fail_if_success have := M6); refine (eq5_yes (il5_of_own Ox1_5.out) (il5_of_own Oy1_5.out) h1).mono ?_; rintro e W6 ⟨rfl, hb6⟩; have M6 : Hid True := trivial; have B_6 : Hid (Below w.heap.size w W6) := bstep B_5.out hb6; have D_6 : Hid (Below W2.heap.size W2 W6) := bstep D_5.out hb6; have Ox1_6 : Hid (W6.ownsRow W2.heap.size 31 5 x1 n1 (ils (zs xs1) (n1 * 5))) := own_below Ox1_5.out hb6; have SG_6 : Hid (W3.heap.size ≤ W6.heap.size) := Nat.le_trans SG_5.out hb6.size; have Oy1_6 : Hid (W6.ownsRow W4.heap.size 31 5 y1 n1 (ils (zs xs1) (n1 * 5))) := own_below Oy1_5.out hb6; clear hb6))
  go_ret
  exact ⟨rfl, B_6.out⟩
theorem walk_wok {w : World} {v : Value} {k : Nat} {ss : Nat → Wr} (n : Int) (hv : Il5 w v k ss) (hk : k ≤ 9223372036854775807) :
    Calls Try.prog 6 #[.int .i64 n, v] w fun e w' => e = .returned (.bool true) ∧ Below w.heap.size w w' :=
  law_wok n hv hk (decide (Wok n k ss)) (fun h _ _ hu => sWok_any n hu h) (fun h _ _ hu => iWok_any n hu h)
end Go.Proofs.Ytlccicbgepfbbaa
