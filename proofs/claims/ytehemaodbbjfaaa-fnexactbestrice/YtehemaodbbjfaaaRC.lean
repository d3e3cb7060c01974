/- BestRice: the law. -/
import Derived.Test.YtehemaodbbjfaaaRB
namespace Go.Proofs.Ytehemaodbbjfaaa
open Go.RowKit

set_option maxHeartbeats 4000000 in
theorem walk_br {w : World} {v : Value} {n : Nat} {xs : Nat → Int} (hv : Il w v n xs) (hn : n ≤ 9223372036854775807) : Calls Try.prog 7 #[v] w fun e w' => e = .returned (.bool true) ∧ Below w.heap.size w w' := by
  rcases Nat.lt_or_ge 1048576 n with h | h
  · obtain ⟨ao, cap, rfl, hcap, hc⟩ := hv
    clear hc
    go_enter Try.func7, Try.ntmps7
    go_wp2
    go_ret
    exact ⟨rfl, Below.refl _ _⟩
  · have FV : Hid (Il w v n xs) := hv
    obtain ⟨X, hX⟩ : ∃ X : Int, X = (brv n xs).1 := ⟨_, rfl⟩
    obtain ⟨Y, hY⟩ : ∃ Y : Int, Y = ((brv n xs).2 : Int) := ⟨_, rfl⟩
    have HS : Hid (∀ W u, Il W u n xs → Calls Try.prog 22 #[u] W fun e w' => e = .returned (.tuple #[.int .i64 X, .int .i64 Y]) ∧ w' = W) := by rw [hX, hY]; exact fun W u hu => sBest_any hu h
    have HI : Hid (∀ W u, Il W u n xs → Calls Try.prog 23 #[u] W fun e w' => e = .returned (.tuple #[.int .i64 X, .int .i64 Y]) ∧ w' = W) := by rw [hX, hY]; exact fun W u hu => iBest_any hu h
    have hx9 : (X != X) = false := by simp
    have hy9 : (Y != Y) = false := by simp
    obtain ⟨ao, cap, rfl, hcap, hc⟩ := hv
    clear hc hX hY
    go_enter Try.func7, Try.ntmps7
    go_wp2_with (first
      | (go_at_call 16; (fail_if_success have := M1); refine (copy_own FV.out h).mono ?_; rintro e w1 ⟨hb, u1, rfl, hf, ho⟩; have M1 : Hid True := trivial; have F1 : Hid (Il w1 u1 n xs) := hf; have FV : Hid (Il w1 (.slice ao n cap) n xs) := FV.out.below hb; have BB : Hid (Below w.heap.size w w1) := hb; clear hf ho hb)
      | (go_at_call 22; refine (HS.out _ _ F1.out).mono ?_; rintro e w' ⟨rfl, hw⟩; obtain rfl := hw.symm; have M2 : Hid True := trivial)
      | (go_at_call 16; have := M2; (fail_if_success have := M3); refine (copy_own FV.out h).mono ?_; rintro e w3 ⟨hb, u3, rfl, hf, ho⟩; have M3 : Hid True := trivial; have F3 : Hid (Il w3 u3 n xs) := hf; have FV : Hid (Il w3 (.slice ao n cap) n xs) := FV.out.below hb; have BB : Hid (Below w.heap.size w w3) := bstep BB.out hb; clear hf ho hb)
      | (go_at_call 23; refine (HI.out _ _ F3.out).mono ?_; rintro e w' ⟨rfl, hw⟩; obtain rfl := hw.symm; have M4 : Hid True := trivial)
      | (go_at_call 16; have := M4; refine (copy_own FV.out h).mono ?_; rintro e w5 ⟨hb, u5, rfl, hf, ho⟩; have F5 : Hid (Il w5 u5 n xs) := hf; have F3 : Hid (Il w5 u3 n xs) := F3.out.below hb; have BB : Hid (Below w.heap.size w w5) := bstep BB.out hb; clear hf ho hb)
      | (go_at_call 17; refine (eq_yes F3.out F5.out h).mono ?_; rintro e w6 ⟨rfl, hb⟩; have BB : Hid (Below w.heap.size w w6) := bstep BB.out hb; clear hb))
    go_ret
    exact ⟨rfl, BB.out⟩
end Go.Proofs.Ytehemaodbbjfaaa
