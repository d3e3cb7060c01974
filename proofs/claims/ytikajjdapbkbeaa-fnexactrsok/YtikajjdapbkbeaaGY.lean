/- RsOk: the law. -/
import Derived.Test.YtikajjdapbkbeaaGV
namespace Go.Proofs.Ytikajjdapbkbeaa
open Go.RowKit

set_option maxHeartbeats 4000000 in
theorem walk_ok {w : World} {v : Value} {n : Nat} {xs : Nat → Int} (hv : Bl w v n xs) (hb : Byt n xs) (hn : n ≤ 9223372036854775807) (t : Int) : Calls Try.prog 7 #[v, .int .i64 t] w fun e w' => e = .returned (.bool true) ∧ Below w.heap.size w w' := by
  rcases Nat.lt_or_ge 1048576 n with h1 | h1
  · obtain ⟨ao1, cap1, rfl, hcap1, hc1⟩ := hv
    clear hc1 hb
    go_enter Try.func7, Try.ntmps7
    go_wp2
    go_ret
    exact ⟨rfl, Below.refl _ _⟩
  have HV : Hid (Bl w v n xs) := hv
  have HS : Hid (∀ W u, Bl W u n xs → Calls Try.prog 26 #[u, .int .i64 t] W fun e w' => e = .returned (.bool (rok n xs t)) ∧ Below W.heap.size W w') := fun W u hu => sOk_any hu hb h1
  have HI : Hid (∀ W u, Bl W u n xs → Calls Try.prog 12 #[u, .int .i64 t] W fun e w' => e = .returned (.bool (rok n xs t)) ∧ Below W.heap.size W w') := fun W u hu => iOk_any hu hb h1
  generalize rok n xs t = R at HS HI
  obtain ⟨ao1, cap1, rfl, hcap1, hc1⟩ := hv
  clear hc1 hb
  go_enter Try.func7, Try.ntmps7
  go_wp2_with (first
    | (go_at_call 22; (fail_if_success have := M1); refine (bcopy_own HV.out h1).mono ?_; rintro e W1 ⟨hb1, a1, rfl, hf1, ho1⟩; have M1 : Hid True := trivial; have B1 : Hid (Below w.heap.size w W1) := hb1; have F1 : Hid (Bl W1 a1 n xs) := hf1; clear hb1 ho1 hf1)
    | (go_at_call 26; have Z := M1; refine (HS.out _ _ F1.out).mono ?_; rintro e W5 ⟨rfl, hb5⟩; have B5 : Hid (Below w.heap.size w W5) := bstep B1.out hb5; clear hb5)
    | (go_at_call 22; have Z := M1; (fail_if_success have := M2); refine (bcopy_own (Bl.below HV.out B5.out) h1).mono ?_; rintro e W2 ⟨hb2, a2, rfl, hf2, ho2⟩; have M2 : Hid True := trivial; have B2 : Hid (Below w.heap.size w W2) := bstep B5.out hb2; have F2 : Hid (Bl W2 a2 n xs) := hf2; clear hb2 ho2 hf2)
    | (go_at_call 12; have Z := M2; refine (HI.out _ _ F2.out).mono ?_; rintro e W6 ⟨rfl, hb6⟩; have B6 : Hid (Below w.heap.size w W6) := bstep B2.out hb6; have F6 : Hid (Bl W6 a2 n xs) := Bl.below F2.out hb6; clear hb6)
    | (go_at_call 22; have Z := M2; (fail_if_success have := M3); refine (bcopy_own (Bl.below HV.out B6.out) h1).mono ?_; rintro e W3 ⟨hb3, a3, rfl, hf3, ho3⟩; have M3 : Hid True := trivial; have B3 : Hid (Below w.heap.size w W3) := bstep B6.out hb3; have F3 : Hid (Bl W3 a3 n xs) := hf3; have F4 : Hid (Bl W3 a2 n xs) := Bl.below F6.out hb3; clear hb3 ho3 hf3)
    | (go_at_call 23; have Z := M3; refine (beq_yes F4.out F3.out h1).mono ?_; rintro e W4 ⟨rfl, hb4⟩; have B4 : Hid (Below w.heap.size w W4) := bstep B3.out hb4; clear hb4))
  go_ret
  exact ⟨rfl, B4.out⟩
end Go.Proofs.Ytikajjdapbkbeaa
