/- The law of ChecksOk. -/
import Derived.Test.YtpbkgdgbbkfccaaCL
import Derived.Test.YtpbkgdgbbkfccaaSZ
namespace Go.Proofs.Ytpbkgdgbbkfccaa
open Go.RowKit

set_option maxRecDepth 20000 in
set_option maxHeartbeats 8000000 in
theorem checks_of {w : World} {v1 : Value} {n1 : Nat} {ms1 : Nat → Nat} {X1 : Nat → Nat → Int} {aN : Int} (hv1 : Ipp w v1 n1 ms1 X1) (hn1 : n1 ≤ 9223372036854775807) (hms1 : ∀ k, k < n1 → ms1 k ≤ 9223372036854775807)  (ok : Bool)
    (hs : n1 ≤ 1048576 → (∀ k, k < n1 → ms1 k ≤ 1048576) → ∀ W u1, Ipp W u1 n1 ms1 X1 → Calls Try.prog 16 #[u1, .int .i64 aN] W fun e w' => e = .returned (.bool ok) ∧ Below W.heap.size W w')
    (hi : n1 ≤ 1048576 → (∀ k, k < n1 → ms1 k ≤ 1048576) → ∀ W u1, Ipp W u1 n1 ms1 X1 → Calls Try.prog 18 #[u1, .int .i64 aN] W fun e w' => e = .returned (.bool ok) ∧ w' = W) :
    Calls Try.prog 4 #[v1, .int .i64 aN] w fun e w' => e = .returned (.bool true) ∧ Below w.heap.size w w' := by
  have hz := szT_any hv1 hn1 hms1
  have FV1 : Hid (Ipp w v1 n1 ms1 X1) := hv1
  have HS0 : Hid (n1 ≤ 1048576 → (∀ k, k < n1 → ms1 k ≤ 1048576) → ∀ W u1, Ipp W u1 n1 ms1 X1 → Calls Try.prog 16 #[u1, .int .i64 aN] W fun e w' => e = .returned (.bool ok) ∧ Below W.heap.size W w') := hs
  have HI0 : Hid (n1 ≤ 1048576 → (∀ k, k < n1 → ms1 k ≤ 1048576) → ∀ W u1, Ipp W u1 n1 ms1 X1 → Calls Try.prog 18 #[u1, .int .i64 aN] W fun e w' => e = .returned (.bool ok) ∧ w' = W) := hi
  obtain ⟨ao1, cap1, rfl, hcap1, hc1⟩ := hv1
  clear hc1 hs hi hms1
  go_enter Try.func4, Try.ntmps4
  go_upto_region 3 with (first | (go_at_call 15; refine hz.mono ?_; rintro e w' ⟨⟨x, rfl, hx⟩, hw⟩; obtain rfl := hw.symm; have HX : Hid (0 ≤ x → (n1 ≤ 1048576 ∧ tot ms1 n1 ≤ 1048576) ∧ ∀ k, k < n1 → ms1 k ≤ 1048576) := hx; clear hx))
  clear hz
  by_cases hx0 : x < 0
  · go_wp2
    go_ret
    exact ⟨rfl, Below.refl _ _⟩
  obtain ⟨⟨h1, htt1⟩, hmm1⟩ := HX.out (by omega)
  have HM1 : Hid (∀ k, k < n1 → ms1 k ≤ 1048576) := hmm1
  have HS : Hid (∀ W u1, Ipp W u1 n1 ms1 X1 → Calls Try.prog 16 #[u1, .int .i64 aN] W fun e w' => e = .returned (.bool ok) ∧ Below W.heap.size W w') := HS0.out h1 hmm1
  have HI : Hid (∀ W u1, Ipp W u1 n1 ms1 X1 → Calls Try.prog 18 #[u1, .int .i64 aN] W fun e w' => e = .returned (.bool ok) ∧ w' = W) := HI0.out h1 hmm1
  have HT1 : Hid (tot ms1 n1 ≤ 1048576) := htt1
  clear htt1
  clear HX hmm1 HS0 HI0
  go_wp2_with (first
    | (go_at_call 17; (fail_if_success have := M1); refine (copyS_own FV1.out h1 HM1.out).mono ?_; rintro e W1 ⟨a1, rfl, ho1, hb1⟩; have M1 : Hid True := trivial; have Bw_1 : Hid (Below w.heap.size w W1) := hb1; have Sw_1 : Hid (w.heap.size ≤ W1.heap.size) := hb1.size; have Oa1_1 : Hid (OPI W1 w.heap.size W1.heap.size a1 n1 ms1 X1) := ho1; clear hb1 ho1)
    | (go_at_call 16; have Z := M1; (fail_if_success have := M2); refine (HS.out _ _ (OPI.ipp Oa1_1.out)).mono ?_; rintro e W2 ⟨rfl, hb2⟩; have M2 : Hid True := trivial; have Bw_2 : Hid (Below w.heap.size w W2) := bstep Bw_1.out hb2; have Sw_2 : Hid (w.heap.size ≤ W2.heap.size) := Nat.le_trans Sw_1.out hb2.size; have Oa1_2 : Hid (OPI W2 w.heap.size W1.heap.size a1 n1 ms1 X1) := OPI.below Oa1_1.out hb2; have SW1_2 : Hid (W1.heap.size ≤ W2.heap.size) := hb2.size; clear hb2)
    | (go_at_call 17; have Z := M2; (fail_if_success have := M3); refine (copyS_own (Ipp.below FV1.out Bw_2.out) h1 HM1.out).mono ?_; rintro e W3 ⟨x1, rfl, ho3, hb3⟩; have M3 : Hid True := trivial; have Bw_3 : Hid (Below w.heap.size w W3) := bstep Bw_2.out hb3; have Sw_3 : Hid (w.heap.size ≤ W3.heap.size) := Nat.le_trans Sw_2.out hb3.size; have SW1_3 : Hid (W1.heap.size ≤ W3.heap.size) := Nat.le_trans SW1_2.out hb3.size; have D_3 : Hid (Below W2.heap.size W2 W3) := hb3; have SW2_3 : Hid (W2.heap.size ≤ W3.heap.size) := hb3.size; have Ox1_3 : Hid (OPI W3 W2.heap.size W3.heap.size x1 n1 ms1 X1) := ho3; clear hb3 ho3)
    | (go_at_call 18; have Z := M3; (fail_if_success have := M4); refine (HI.out _ _ (OPI.ipp Ox1_3.out)).mono ?_; rintro e w' ⟨rfl, hw⟩; obtain rfl := hw.symm; have M4 : Hid True := trivial)
    | (go_at_call 17; have Z := M4; (fail_if_success have := M5); refine (copyS_own (Ipp.below FV1.out Bw_3.out) h1 HM1.out).mono ?_; rintro e W5 ⟨y1, rfl, ho5, hb5⟩; have M5 : Hid True := trivial; have Bw_5 : Hid (Below w.heap.size w W5) := bstep Bw_3.out hb5; have Sw_5 : Hid (w.heap.size ≤ W5.heap.size) := Nat.le_trans Sw_3.out hb5.size; have SW1_5 : Hid (W1.heap.size ≤ W5.heap.size) := Nat.le_trans SW1_3.out hb5.size; have D_5 : Hid (Below W2.heap.size W2 W5) := bstep D_3.out hb5; have SW2_5 : Hid (W2.heap.size ≤ W5.heap.size) := Nat.le_trans SW2_3.out hb5.size; have Ox1_5 : Hid (OPI W5 W2.heap.size W3.heap.size x1 n1 ms1 X1) := OPI.below Ox1_3.out hb5; have SW3_5 : Hid (W3.heap.size ≤ W5.heap.size) := hb5.size; have Oy1_5 : Hid (OPI W5 W3.heap.size W5.heap.size y1 n1 ms1 X1) := ho5; clear hb5 ho5)
    | (go_at_call 19; have Z := M5; (fail_if_success have := M6); refine (eqS_yes (OPI.ipp Ox1_5.out) (OPI.ipp Oy1_5.out) h1 HM1.out).mono ?_; rintro e W6 ⟨rfl, hb6⟩; have M6 : Hid True := trivial; have Bw_6 : Hid (Below w.heap.size w W6) := bstep Bw_5.out hb6; have Sw_6 : Hid (w.heap.size ≤ W6.heap.size) := Nat.le_trans Sw_5.out hb6.size; have SW1_6 : Hid (W1.heap.size ≤ W6.heap.size) := Nat.le_trans SW1_5.out hb6.size; have D_6 : Hid (Below W2.heap.size W2 W6) := bstep D_5.out hb6; have SW2_6 : Hid (W2.heap.size ≤ W6.heap.size) := Nat.le_trans SW2_5.out hb6.size; have Ox1_6 : Hid (OPI W6 W2.heap.size W3.heap.size x1 n1 ms1 X1) := OPI.below Ox1_5.out hb6; have SW3_6 : Hid (W3.heap.size ≤ W6.heap.size) := Nat.le_trans SW3_5.out hb6.size; have Oy1_6 : Hid (OPI W6 W3.heap.size W5.heap.size y1 n1 ms1 X1) := OPI.below Oy1_5.out hb6; have SW5_6 : Hid (W5.heap.size ≤ W6.heap.size) := hb6.size; clear hb6))
  go_ret
  exact ⟨rfl, Bw_6.out⟩

theorem walk_checks {w : World} {v : Value} {M : Nat} {ms : Nat → Nat} {X : Nat → Nat → Int} (n : Int) (hv : Ipp w v M ms X) (hM : M ≤ 9223372036854775807) (hms : ∀ k, k < M → ms k ≤ 9223372036854775807) : Calls Try.prog 4 #[v, .int .i64 n] w fun e w' => e = .returned (.bool true) ∧ Below w.heap.size w w' :=
  checks_of (aN := n) hv hM hms (yb (Cks M ms X n)) (fun h hm _ _ hu => sChecks_any hu h hm) (fun h hm _ _ hu => iChecks_any hu h hm)
end Go.Proofs.Ytpbkgdgbbkfccaa
