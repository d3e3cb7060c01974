/- Dropped: the law. -/
import Derived.Test.YtjijkfhpiefheaaDC
import Derived.WalkKit
import Derived.WalkSpells
import Derived.WalkLawsBesides
import Derived.Deep.QuietTactic
import Derived.BigQuiet
import Derived.BigRegion
import Derived.Deep.Cut
namespace Go.Proofs.Ytjijkfhpiefheaa
open Go.RowKit

theorem own_only2 {w w' w3 : World} {B3 s s2 n m g : Nat} {e e2 : TypeId} {v x : Value} {xs L : List Value} (h : w.ownsRow w3.heap.size e s v n xs) (ho : Only g w w') (hor : x.ownBlock = some g ∨ w' = w) (hx : w3.ownsRow B3 e2 s2 x m L) : w'.ownsRow w3.heap.size e s v n xs := by
  rcases hor with hg | rfl
  · exact own_only h ho (World.ownsRow.lt hx g hg).2
  · exact h

set_option maxRecDepth 20000 in
set_option maxHeartbeats 8000000 in
theorem law_drop {w : World} {v1 : Value} {n1 : Nat} {xs1 : Nat → Int} {v2 : Value} {n2 : Nat} {xs2 : Nat → Int} (c : Int) (hv1 : Il w v1 n1 xs1) (hn1 : n1 ≤ 9223372036854775807) (hv2 : Il w v2 n2 xs2) (hn2 : n2 ≤ 9223372036854775807)  (d p : Int) (o : Bool)
    (hs : n1 ≤ 1048576 → n2 ≤ 1048576 → ∀ W u1 u2, Il W u1 n1 xs1 → Il W u2 n2 xs2 → Calls Try.prog 8 #[.int .i64 c, u1, u2] W fun e w' => e = .returned (.tuple #[.int .i64 d, .int .i64 p, .bool o]) ∧ Below W.heap.size W w')
    (hi : n1 ≤ 1048576 → n2 ≤ 1048576 → ∀ W u1 u2, Il W u1 n1 xs1 → Il W u2 n2 xs2 → Calls Try.prog 7 #[.int .i64 c, u1, u2] W fun e w' => e = .returned (.tuple #[.int .i64 d, .int .i64 p, .bool o]) ∧ Below W.heap.size W w') :
    Calls Try.prog 4 #[.int .i64 c, v1, v2] w fun e w' => e = .returned (.bool true) ∧ Below w.heap.size w w' := by
  rcases Nat.lt_or_ge 1048576 n1 with h1 | h1
  · obtain ⟨ao1, cap1, rfl, hcap1, hc1⟩ := hv1
    obtain ⟨ao2, cap2, rfl, hcap2, hc2⟩ := hv2
    clear hc1 hc2 hs hi
    go_enter Try.func4, Try.ntmps4
    go_wp2
    go_ret
    exact ⟨rfl, Below.refl _ _⟩
  rcases Nat.lt_or_ge 1048576 n2 with h2 | h2
  · obtain ⟨ao1, cap1, rfl, hcap1, hc1⟩ := hv1
    obtain ⟨ao2, cap2, rfl, hcap2, hc2⟩ := hv2
    clear hc1 hc2 hs hi
    go_enter Try.func4, Try.ntmps4
    go_wp2
    go_ret
    exact ⟨rfl, Below.refl _ _⟩
  have FV1 : Hid (Il w v1 n1 xs1) := hv1
  have FV2 : Hid (Il w v2 n2 xs2) := hv2
  have HS : Hid (∀ W u1 u2, Il W u1 n1 xs1 → Il W u2 n2 xs2 → Calls Try.prog 8 #[.int .i64 c, u1, u2] W fun e w' => e = .returned (.tuple #[.int .i64 d, .int .i64 p, .bool o]) ∧ Below W.heap.size W w') := hs h1 h2
  have HI : Hid (∀ W u1 u2, Il W u1 n1 xs1 → Il W u2 n2 xs2 → Calls Try.prog 7 #[.int .i64 c, u1, u2] W fun e w' => e = .returned (.tuple #[.int .i64 d, .int .i64 p, .bool o]) ∧ Below W.heap.size W w') := hi h1 h2
  obtain ⟨ao1, cap1, rfl, hcap1, hc1⟩ := hv1
  obtain ⟨ao2, cap2, rfl, hcap2, hc2⟩ := hv2
  clear hc1 hc2 hs hi
  go_enter Try.func4, Try.ntmps4
  go_wp2_with (first
    | (go_at_call 9; (fail_if_success have := M1); refine (copy_own FV1.out h1).mono ?_; rintro e W1 ⟨hb1, a1, rfl, hf1, ho1⟩; have M1 : Hid True := trivial; have B_1 : Hid (Below w.heap.size w W1) := hb1; have Oa1_1 : Hid (W1.ownsRow w.heap.size 3 1 a1 n1 (ils xs1 n1)) := ho1; clear hb1 ho1 hf1)
    | (go_at_call 9; have Z := M1; (fail_if_success have := M2); refine (copy_own (Il.below FV2.out B_1.out) h2).mono ?_; rintro e W2 ⟨hb2, a2, rfl, hf2, ho2⟩; have M2 : Hid True := trivial; have B_2 : Hid (Below w.heap.size w W2) := bstep B_1.out hb2; have Oa1_2 : Hid (W2.ownsRow w.heap.size 3 1 a1 n1 (ils xs1 n1)) := own_below Oa1_1.out hb2; have Oa2_2 : Hid (W2.ownsRow W1.heap.size 3 1 a2 n2 (ils xs2 n2)) := ho2; clear hb2 ho2 hf2)
    | (go_at_call 8; have Z := M2; (fail_if_success have := M3); refine (HS.out _ _ _ (il_of_own Oa1_2.out) (il_of_own Oa2_2.out)).mono ?_; rintro e W3 ⟨rfl, hb3⟩; have M3 : Hid True := trivial; have B_3 : Hid (Below w.heap.size w W3) := bstep B_2.out hb3; have Oa1_3 : Hid (W3.ownsRow w.heap.size 3 1 a1 n1 (ils xs1 n1)) := own_below Oa1_2.out hb3; have Oa2_3 : Hid (W3.ownsRow W1.heap.size 3 1 a2 n2 (ils xs2 n2)) := own_below Oa2_2.out hb3; clear hb3)
    | (go_at_call 9; have Z := M3; (fail_if_success have := M4); refine (copy_own (Il.below FV1.out B_3.out) h1).mono ?_; rintro e W4 ⟨hb4, x1, rfl, hf4, ho4⟩; have M4 : Hid True := trivial; have B_4 : Hid (Below w.heap.size w W4) := bstep B_3.out hb4; have D_4 : Hid (Below W3.heap.size W3 W4) := hb4; have Ox1_4 : Hid (W4.ownsRow W3.heap.size 3 1 x1 n1 (ils xs1 n1)) := ho4; clear hb4 ho4 hf4)
    | (go_at_call 9; have Z := M4; (fail_if_success have := M5); refine (copy_own (Il.below FV2.out B_4.out) h2).mono ?_; rintro e W5 ⟨hb5, x2, rfl, hf5, ho5⟩; have M5 : Hid True := trivial; have B_5 : Hid (Below w.heap.size w W5) := bstep B_4.out hb5; have D_5 : Hid (Below W3.heap.size W3 W5) := bstep D_4.out hb5; have Ox1_5 : Hid (W5.ownsRow W3.heap.size 3 1 x1 n1 (ils xs1 n1)) := own_below Ox1_4.out hb5; have S1_5 : Hid (W4.heap.size ≤ W5.heap.size) := hb5.size; have Ox2_5 : Hid (W5.ownsRow W4.heap.size 3 1 x2 n2 (ils xs2 n2)) := ho5; clear hb5 ho5 hf5)
    | (go_at_call 7; have Z := M5; (fail_if_success have := M6); refine (HI.out _ _ _ (il_of_own Ox1_5.out) (il_of_own Ox2_5.out)).mono ?_; rintro e W6 ⟨rfl, hb6⟩; have M6 : Hid True := trivial; have B_6 : Hid (Below w.heap.size w W6) := bstep B_5.out hb6; have D_6 : Hid (Below W3.heap.size W3 W6) := bstep D_5.out hb6; have Ox1_6 : Hid (W6.ownsRow W3.heap.size 3 1 x1 n1 (ils xs1 n1)) := own_below Ox1_5.out hb6; have S1_6 : Hid (W4.heap.size ≤ W6.heap.size) := Nat.le_trans S1_5.out hb6.size; have Ox2_6 : Hid (W6.ownsRow W4.heap.size 3 1 x2 n2 (ils xs2 n2)) := own_below Ox2_5.out hb6; have SG_6 : Hid (W5.heap.size ≤ W6.heap.size) := hb6.size; clear hb6)
    | (go_at_call 9; have Z := M6; (fail_if_success have := M7); refine (copy_own (Il.below FV1.out B_6.out) h1).mono ?_; rintro e W7 ⟨hb7, y1, rfl, hf7, ho7⟩; have M7 : Hid True := trivial; have B_7 : Hid (Below w.heap.size w W7) := bstep B_6.out hb7; have D_7 : Hid (Below W3.heap.size W3 W7) := bstep D_6.out hb7; have Ox1_7 : Hid (W7.ownsRow W3.heap.size 3 1 x1 n1 (ils xs1 n1)) := own_below Ox1_6.out hb7; have S1_7 : Hid (W4.heap.size ≤ W7.heap.size) := Nat.le_trans S1_6.out hb7.size; have Ox2_7 : Hid (W7.ownsRow W4.heap.size 3 1 x2 n2 (ils xs2 n2)) := own_below Ox2_6.out hb7; have SG_7 : Hid (W5.heap.size ≤ W7.heap.size) := Nat.le_trans SG_6.out hb7.size; have Oy1_7 : Hid (W7.ownsRow W6.heap.size 3 1 y1 n1 (ils xs1 n1)) := ho7; clear hb7 ho7 hf7)
    | (go_at_call 10; have Z := M7; (fail_if_success have := M8); refine (eq_yes (il_of_own Ox1_7.out) (il_of_own Oy1_7.out) h1).mono ?_; rintro e W8 ⟨rfl, hb8⟩; have M8 : Hid True := trivial; have B_8 : Hid (Below w.heap.size w W8) := bstep B_7.out hb8; have D_8 : Hid (Below W3.heap.size W3 W8) := bstep D_7.out hb8; have Ox1_8 : Hid (W8.ownsRow W3.heap.size 3 1 x1 n1 (ils xs1 n1)) := own_below Ox1_7.out hb8; have S1_8 : Hid (W4.heap.size ≤ W8.heap.size) := Nat.le_trans S1_7.out hb8.size; have Ox2_8 : Hid (W8.ownsRow W4.heap.size 3 1 x2 n2 (ils xs2 n2)) := own_below Ox2_7.out hb8; have SG_8 : Hid (W5.heap.size ≤ W8.heap.size) := Nat.le_trans SG_7.out hb8.size; have Oy1_8 : Hid (W8.ownsRow W6.heap.size 3 1 y1 n1 (ils xs1 n1)) := own_below Oy1_7.out hb8; clear hb8)
    | (go_at_call 9; have Z := M8; (fail_if_success have := M9); refine (copy_own (Il.below FV2.out B_8.out) h2).mono ?_; rintro e W9 ⟨hb9, y2, rfl, hf9, ho9⟩; have M9 : Hid True := trivial; have B_9 : Hid (Below w.heap.size w W9) := bstep B_8.out hb9; have D_9 : Hid (Below W3.heap.size W3 W9) := bstep D_8.out hb9; have Ox1_9 : Hid (W9.ownsRow W3.heap.size 3 1 x1 n1 (ils xs1 n1)) := own_below Ox1_8.out hb9; have S1_9 : Hid (W4.heap.size ≤ W9.heap.size) := Nat.le_trans S1_8.out hb9.size; have Ox2_9 : Hid (W9.ownsRow W4.heap.size 3 1 x2 n2 (ils xs2 n2)) := own_below Ox2_8.out hb9; have SG_9 : Hid (W5.heap.size ≤ W9.heap.size) := Nat.le_trans SG_8.out hb9.size; have Oy2_9 : Hid (W9.ownsRow W8.heap.size 3 1 y2 n2 (ils xs2 n2)) := ho9; clear hb9 ho9 hf9)
    | (go_at_call 10; have Z := M9; (fail_if_success have := M10); refine (eq_yes (il_of_own Ox2_9.out) (il_of_own Oy2_9.out) h2).mono ?_; rintro e W10 ⟨rfl, hb10⟩; have M10 : Hid True := trivial; have B_10 : Hid (Below w.heap.size w W10) := bstep B_9.out hb10; have D_10 : Hid (Below W3.heap.size W3 W10) := bstep D_9.out hb10; have Ox1_10 : Hid (W10.ownsRow W3.heap.size 3 1 x1 n1 (ils xs1 n1)) := own_below Ox1_9.out hb10; have S1_10 : Hid (W4.heap.size ≤ W10.heap.size) := Nat.le_trans S1_9.out hb10.size; have Ox2_10 : Hid (W10.ownsRow W4.heap.size 3 1 x2 n2 (ils xs2 n2)) := own_below Ox2_9.out hb10; have SG_10 : Hid (W5.heap.size ≤ W10.heap.size) := Nat.le_trans SG_9.out hb10.size; have Oy2_10 : Hid (W10.ownsRow W8.heap.size 3 1 y2 n2 (ils xs2 n2)) := own_below Oy2_9.out hb10; clear hb10))
  go_ret
  exact ⟨rfl, B_10.out⟩

theorem drp_is {c : Int} {n m : Nat} {g t : Nat → Int} {e : Ending} (h : Drp c n m g t e) : ∀ d p o, (Rok c n m g t → d = (rst c g t n).2.1 ∧ p = (rst c g t n).2.2 ∧ o = true) → (¬ Rok c n m g t → d = 0 ∧ p = 0 ∧ o = false) → e = .returned (.tuple #[.int .i64 d, .int .i64 p, .bool o]) := by
  obtain ⟨d, p, o, rfl, h1, h2⟩ := h
  intro d2 p2 o2 h3 h4
  by_cases h : Rok c n m g t
  · obtain ⟨rfl, rfl, rfl⟩ := h1 h
    obtain ⟨rfl, rfl, rfl⟩ := h3 h
    rfl
  · obtain ⟨rfl, rfl, rfl⟩ := h2 h
    obtain ⟨rfl, rfl, rfl⟩ := h4 h
    rfl

theorem walk_drop {w : World} {v u : Value} {k N : Nat} {g t : Nat → Int} (c : Int) (hv : Il w v k g) (hk : k ≤ 9223372036854775807) (hu : Il w u N t) (hN : N ≤ 9223372036854775807) :
    Calls Try.prog 4 #[.int .i64 c, v, u] w fun e w' => e = .returned (.bool true) ∧ Below w.heap.size w w' := by
  obtain ⟨d, p, o, h1, h2⟩ : ∃ d p : Int, ∃ o : Bool, (Rok c k N g t → d = (rst c g t k).2.1 ∧ p = (rst c g t k).2.2 ∧ o = true) ∧ (¬ Rok c k N g t → d = 0 ∧ p = 0 ∧ o = false) := by
    by_cases h : Rok c k N g t
    · exact ⟨_, _, _, fun _ => ⟨rfl, rfl, rfl⟩, fun x => absurd h x⟩
    · exact ⟨_, _, _, fun x => absurd x h, fun _ => ⟨rfl, rfl, rfl⟩⟩
  exact law_drop c hv hk hu hN d p o
    (fun a b _ _ _ ha hb => (sDrop_any c ha hb a b).mono fun _ _ h => ⟨drp_is h.1 d p o h1 h2, h.2⟩)
    (fun a b _ _ _ ha hb => (iDrop_any c ha hb a b).mono fun _ _ h => ⟨drp_is h.1 d p o h1 h2, h.2⟩)

end Go.Proofs.Ytjijkfhpiefheaa
