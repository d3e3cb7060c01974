/- Best: the law. -/
import Derived.Test.YthcphcjaomhmmaaME
namespace Go.Proofs.Ythcphcjaomhmmaa
open Go.RowKit

set_option maxHeartbeats 8000000 in
theorem wbe_of {w : World} {v1 : Value} {n1 : Nat} {xs1 : Nat → Int} {v2 : Value} {n2 : Nat} {xs2 : Nat → Int} (hv1 : Il w v1 n1 xs1) (hn1 : n1 ≤ 9223372036854775807) (hv2 : Il w v2 n2 xs2) (hn2 : n2 ≤ 9223372036854775807) (p q : Int)
    (hs : n1 ≤ 1048576 → n2 ≤ 1048576 → ∀ W u1 u2, Il W u1 n1 xs1 → Il W u2 n2 xs2 → Calls Try.prog 11 #[u1, u2] W fun e w' => e = .returned (.tuple #[.int .i64 p, .int .i64 q]) ∧ Below W.heap.size W w')
    (hi : n1 ≤ 1048576 → n2 ≤ 1048576 → ∀ W u1 u2, Il W u1 n1 xs1 → Il W u2 n2 xs2 → Calls Try.prog 12 #[u1, u2] W fun e w' => e = .returned (.tuple #[.int .i64 p, .int .i64 q]) ∧ Below W.heap.size W w') :
    Calls Try.prog 4 #[v1, v2] w fun e w' => e = .returned (.bool true) ∧ Below w.heap.size w w' := by
  rcases Nat.lt_or_ge 1048576 n1 with h1 | h1
  · obtain ⟨ao1, cap1, rfl, hcap1, hc1⟩ := hv1
    obtain ⟨ao2, cap2, rfl, hcap2, hc2⟩ := hv2
    clear hc1 hc2 hs hi
    go_enter Try.func4, Try.ntmps4
    go_wp2
    go_ret
    exact ⟨rfl, Below.refl _ _⟩
  rcases Nat.lt_or_ge 1048576 n2 with h2 | h2
  · obtain ⟨ao1, cap1, rfl, hcap1, hc1⟩ := hv1
    obtain ⟨ao2, cap2, rfl, hcap2, hc2⟩ := hv2
    clear hc1 hc2 hs hi
    go_enter Try.func4, Try.ntmps4
    go_wp2
    go_ret
    exact ⟨rfl, Below.refl _ _⟩
  have FV1 : Hid (Il w v1 n1 xs1) := hv1
  have FV2 : Hid (Il w v2 n2 xs2) := hv2
  have HS : Hid (∀ W u1 u2, Il W u1 n1 xs1 → Il W u2 n2 xs2 → Calls Try.prog 11 #[u1, u2] W fun e w' => e = .returned (.tuple #[.int .i64 p, .int .i64 q]) ∧ Below W.heap.size W w') := hs h1 h2
  have HI : Hid (∀ W u1 u2, Il W u1 n1 xs1 → Il W u2 n2 xs2 → Calls Try.prog 12 #[u1, u2] W fun e w' => e = .returned (.tuple #[.int .i64 p, .int .i64 q]) ∧ Below W.heap.size W w') := hi h1 h2
  obtain ⟨ao1, cap1, rfl, hcap1, hc1⟩ := hv1
  obtain ⟨ao2, cap2, rfl, hcap2, hc2⟩ := hv2
  clear hc1 hc2 hs hi
  go_enter Try.func4, Try.ntmps4
  go_wp2_with (first
    | (go_at_call 6; (fail_if_success have := M1); refine (copy_own FV1.out h1).mono ?_; rintro e W1 ⟨hb, a1, rfl, hf, ho⟩; have M1 : Hid True := trivial; have B1 : Hid (Below w.heap.size w W1) := hb; have O1 : Hid (W1.ownsRow w.heap.size 3 1 a1 n1 (ils xs1 n1)) := ho; clear hb ho hf)
    | (go_at_call 6; have Z := M1; (fail_if_success have := M2); refine (copy_own (Il.below FV2.out B1.out) h2).mono ?_; rintro e W2 ⟨hb, a2, rfl, hf, ho⟩; have M2 : Hid True := trivial; have B2 : Hid (Below w.heap.size w W2) := bstep B1.out hb; have O2 : Hid (W2.ownsRow w.heap.size 3 1 a1 n1 (ils xs1 n1) ∧ W2.ownsRow W1.heap.size 3 1 a2 n2 (ils xs2 n2)) := ⟨own_below O1.out hb, ho⟩; clear hb ho hf)
    | (go_at_call 11; have Z := M2; (fail_if_success have := M3); refine (HS.out _ _ _ (il_of_own O2.out.1) (il_of_own O2.out.2)).mono ?_; rintro e W3 ⟨rfl, hb⟩; have M3 : Hid True := trivial; have B3 : Hid (Below w.heap.size w W3) := bstep B2.out hb; clear hb)
    | (go_at_call 6; have Z := M3; (fail_if_success have := M4); refine (copy_own (Il.below FV1.out B3.out) h1).mono ?_; rintro e W4 ⟨hb, x1, rfl, hf, ho⟩; have M4 : Hid True := trivial; have B4 : Hid (Below w.heap.size w W4) := bstep B3.out hb; have O4 : Hid (W4.ownsRow W3.heap.size 3 1 x1 n1 (ils xs1 n1)) := ho; clear hb ho hf)
    | (go_at_call 6; have Z := M4; (fail_if_success have := M5); refine (copy_own (Il.below FV2.out B4.out) h2).mono ?_; rintro e W5 ⟨hb, x2, rfl, hf, ho⟩; have M5 : Hid True := trivial; have B5 : Hid (Below w.heap.size w W5) := bstep B4.out hb; have O5 : Hid (W5.ownsRow W3.heap.size 3 1 x1 n1 (ils xs1 n1) ∧ W5.ownsRow W4.heap.size 3 1 x2 n2 (ils xs2 n2)) := ⟨own_below O4.out hb, ho⟩; clear hb ho hf)
    | (go_at_call 12; have Z := M5; (fail_if_success have := M6); refine (HI.out _ _ _ (il_of_own O5.out.1) (il_of_own O5.out.2)).mono ?_; rintro e W6 ⟨rfl, hb⟩; have M6 : Hid True := trivial; have B6 : Hid (Below w.heap.size w W6) := bstep B5.out hb; have O6 : Hid (W6.ownsRow W3.heap.size 3 1 x1 n1 (ils xs1 n1) ∧ W6.ownsRow W4.heap.size 3 1 x2 n2 (ils xs2 n2)) := ⟨own_below O5.out.1 hb, own_below O5.out.2 hb⟩; clear hb)
    | (go_at_call 6; have Z := M6; (fail_if_success have := M7); refine (copy_own (Il.below FV1.out B6.out) h1).mono ?_; rintro e W7 ⟨hb, y1, rfl, hf, ho⟩; have M7 : Hid True := trivial; have B7 : Hid (Below w.heap.size w W7) := bstep B6.out hb; have O7 : Hid ((W7.ownsRow W3.heap.size 3 1 x1 n1 (ils xs1 n1) ∧ W7.ownsRow W4.heap.size 3 1 x2 n2 (ils xs2 n2)) ∧ W7.ownsRow W6.heap.size 3 1 y1 n1 (ils xs1 n1)) := ⟨⟨own_below O6.out.1 hb, own_below O6.out.2 hb⟩, ho⟩; clear hb ho hf)
    | (go_at_call 8; have Z := M7; (fail_if_success have := M8); refine (eq_yes (il_of_own O7.out.1.1) (il_of_own O7.out.2) h1).mono ?_; rintro e W8 ⟨rfl, hb⟩; have M8 : Hid True := trivial; have B8 : Hid (Below w.heap.size w W8) := bstep B7.out hb; have O8 : Hid (W8.ownsRow W4.heap.size 3 1 x2 n2 (ils xs2 n2)) := own_below O7.out.1.2 hb; clear hb)
    | (go_at_call 6; have Z := M8; (fail_if_success have := M9); refine (copy_own (Il.below FV2.out B8.out) h2).mono ?_; rintro e W9 ⟨hb, y2, rfl, hf, ho⟩; have M9 : Hid True := trivial; have B9 : Hid (Below w.heap.size w W9) := bstep B8.out hb; have O9 : Hid (W9.ownsRow W4.heap.size 3 1 x2 n2 (ils xs2 n2) ∧ W9.ownsRow W8.heap.size 3 1 y2 n2 (ils xs2 n2)) := ⟨own_below O8.out hb, ho⟩; clear hb ho hf)
    | (go_at_call 8; have Z := M9; (fail_if_success have := M10); refine (eq_yes (il_of_own O9.out.1) (il_of_own O9.out.2) h2).mono ?_; rintro e W10 ⟨rfl, hb⟩; have M10 : Hid True := trivial; have B10 : Hid (Below w.heap.size w W10) := bstep B9.out hb; clear hb))
  go_ret
  exact ⟨rfl, B10.out⟩

theorem walk_be {w : World} {v u : Value} {n m : Nat} {xs ps : Nat → Int} (hv : Il w v n xs) (hn : n ≤ 9223372036854775807) (hu : Il w u m ps) (hm : m ≤ 9223372036854775807) : Calls Try.prog 4 #[v, u] w fun e w' => e = .returned (.bool true) ∧ Below w.heap.size w w' := by
  by_cases h : GM n xs m ps
  · exact wbe_of hv hn hu hm _ _ (fun _ _ W a b ha hb => sBest_good ha hb h rfl) (fun _ _ W a b ha hb => iBest_good ha hb h rfl)
  · exact wbe_of hv hn hu hm _ _ (fun h1 h2 W a b ha hb => sBest_bad ha hb h1 h2 h) (fun h1 h2 W a b ha hb => iBest_bad ha hb h1 h2 h)
end Go.Proofs.Ythcphcjaomhmmaa
