/- Together: the law. -/
import Derived.Test.YtacenbapmelncaaDoorTH
namespace Go.Proofs.YtacenbapmelncaaDoor
open Go.RowKit

set_option maxHeartbeats 4000000 in
theorem sTog_no {a b c : Int} (hbad : ¬ ((0 ≤ a ∧ a ≤ 998244353 - 1) ∧ (0 ≤ b ∧ b ≤ 167772161 - 1) ∧ (0 ≤ c ∧ c ≤ 469762049 - 1))) (w : World) :
    Calls Tryd.prog 4 #[.int .i64 a, .int .i64 b, .int .i64 c] w fun e w' => e = .returned (.int .i64 0) ∧ Below w.heap.size w w' := by
  have q1 := in_any a 0 998244352
  have q2 := in_any b 0 167772160
  have q3 := in_any c 0 469762048
  by_cases h1 : 0 ≤ a ∧ a ≤ 998244352
  · rw [decide_eq_true h1] at q1
    by_cases h2 : 0 ≤ b ∧ b ≤ 167772160
    · rw [decide_eq_true h2] at q2
      have h3 : ¬ (0 ≤ c ∧ c ≤ 469762048) := fun h3 => hbad ⟨by omega, by omega, by omega⟩
      rw [decide_eq_false h3] at q3
      clear h1 h2 h3 hbad
      go_enter Tryd.func4, Tryd.ntmps4
      go_wp2_with (first | (go_at_call 6; (with_reducible refine (q1 _).mono ?_); rintro e w' ⟨rfl, hw⟩; obtain rfl := hw.symm) | (go_at_call 6; (with_reducible refine (q2 _).mono ?_); rintro e w' ⟨rfl, hw⟩; obtain rfl := hw.symm) | (go_at_call 6; (with_reducible refine (q3 _).mono ?_); rintro e w' ⟨rfl, hw⟩; obtain rfl := hw.symm))
      go_ret
      exact ⟨rfl, Below.refl _ _⟩
    · rw [decide_eq_false h2] at q2
      clear h1 h2 hbad q3
      go_enter Tryd.func4, Tryd.ntmps4
      go_wp2_with (first | (go_at_call 6; (with_reducible refine (q1 _).mono ?_); rintro e w' ⟨rfl, hw⟩; obtain rfl := hw.symm) | (go_at_call 6; (with_reducible refine (q2 _).mono ?_); rintro e w' ⟨rfl, hw⟩; obtain rfl := hw.symm))
      go_ret
      exact ⟨rfl, Below.refl _ _⟩
  · rw [decide_eq_false h1] at q1
    clear h1 hbad q2 q3
    go_enter Tryd.func4, Tryd.ntmps4
    go_wp2_with (first | (go_at_call 6; (with_reducible refine (q1 _).mono ?_); rintro e w' ⟨rfl, hw⟩; obtain rfl := hw.symm))
    go_ret
    exact ⟨rfl, Below.refl _ _⟩

/-- Both sides answer the same. -/
theorem both_tog (a b c : Int) : ∃ R, (∀ w, Calls Tryd.prog 4 #[.int .i64 a, .int .i64 b, .int .i64 c] w fun e w' => e = .returned (.int .i64 R) ∧ Below w.heap.size w w') ∧ (∀ w, Prs w → Calls Tryd.prog 5 #[.int .i64 a, .int .i64 b, .int .i64 c] w fun e w' => e = .returned (.int .i64 R) ∧ w' = w) := by
  by_cases hg : (0 ≤ a ∧ a ≤ 998244353 - 1) ∧ (0 ≤ b ∧ b ≤ 167772161 - 1) ∧ (0 ≤ c ∧ c ≤ 469762049 - 1)
  · obtain ⟨R, hR⟩ := tgs_ex (a + 998244353 * tmV a 998244353 b 167772161) (tmV (a + 998244353 * tmV a 998244353 b 167772161) 167477612308856833 c 469762049)
    refine ⟨R, fun w => ?_, fun w hs => iTog_yes (by omega) (by omega) (by omega) hR hs⟩
    obtain ⟨x, rfl⟩ := Int.eq_ofNat_of_zero_le hg.1.1
    obtain ⟨y, rfl⟩ := Int.eq_ofNat_of_zero_le hg.2.1.1
    obtain ⟨z, rfl⟩ := Int.eq_ofNat_of_zero_le hg.2.2.1
    exact sTog_yes (by omega) (by omega) (by omega) hR w
  · exact ⟨0, fun w => sTog_no hg w, fun w hs => iTog_no hg hs⟩

set_option maxHeartbeats 2000000 in
theorem walk_tog (a b c : Int) (w : World) (hs : Prs w) : Calls Tryd.prog 3 #[.int .i64 a, .int .i64 b, .int .i64 c] w fun e w' => e = .returned (.bool true) ∧ Below w.heap.size w w' := by
  obtain ⟨R, h1, h2⟩ := both_tog a b c
  have HS : Hid (Prs w) := hs
  clear hs
  go_enter Tryd.func3, Tryd.ntmps3
  go_wp2_with (first
    | (go_at_call 4; refine (h1 w).mono ?_; rintro e w1 ⟨rfl, hb⟩; have B1 : Hid (Below w.heap.size w w1) := hb; clear hb)
    | (go_at_call 5; refine (h2 _ (HS.out.below B1.out)).mono ?_; rintro e w' ⟨rfl, hw⟩; obtain rfl := hw.symm))
  go_ret
  exact ⟨rfl, B1.out⟩
end Go.Proofs.YtacenbapmelncaaDoor
