/- The model's small functions of rounding: which way, the sign, the infinities, the modes. -/
import Derived.Test.YtcpnmcfpnhokgaaDoorR0
import Derived.Test.YtcpnmcfpnhokgaaDoorU3
namespace Go.Proofs.YtcpnmcfpnhokgaaDoor
open Go.RowKit

set_option maxHeartbeats 1000000 in
theorem up_any (mode half : Int) (neg odd some : Bool) (w : World) :
    Calls Tryd.prog 81 #[.int .i64 mode, .bool neg, .bool odd, .int .i64 half, .bool some] w fun e w' => e = .returned (.bool (upOf mode neg odd half some)) ∧ w' = w := by
  unfold upOf
  by_cases m1 : mode = 1
  · subst m1
    rw [if_pos rfl]
    rcases Int.lt_trichotomy half 0 with h | rfl | h
    · have h0 : (half == 0) = false := by simp; omega
      have h1 : ¬ 0 < half := by omega
      go_enter Tryd.func81, Tryd.ntmps81
      go_wp2
      go_ret
      refine ⟨?_, rfl⟩
      simp
      omega
    · go_enter Tryd.func81, Tryd.ntmps81
      go_wp2
      go_ret
      exact ⟨by simp, rfl⟩
    · go_enter Tryd.func81, Tryd.ntmps81
      go_wp2
      go_ret
      refine ⟨?_, rfl⟩
      simp [h]
  rw [if_neg m1]
  have b1 : (mode == 1) = false := by simpa using m1
  by_cases m2 : mode = 2
  · subst m2
    rw [if_pos rfl]
    go_enter Tryd.func81, Tryd.ntmps81
    go_wp2
    go_ret
    exact ⟨rfl, rfl⟩
  rw [if_neg m2]
  have b2 : (mode == 2) = false := by simpa using m2
  by_cases m4 : mode = 4
  · subst m4
    rw [if_pos rfl]
    cases some
    all_goals
      go_enter Tryd.func81, Tryd.ntmps81
      go_wp2
      go_ret
      exact ⟨by simp, rfl⟩
  rw [if_neg m4]
  have b4 : (mode == 4) = false := by simpa using m4
  by_cases m5 : mode = 5
  · subst m5
    rw [if_pos rfl]
    cases some
    all_goals
      go_enter Tryd.func81, Tryd.ntmps81
      go_wp2
      go_ret
      exact ⟨by simp, rfl⟩
  rw [if_neg m5]
  have b5 : (mode == 5) = false := by simpa using m5
  clear m1 m2 m4 m5
  go_enter Tryd.func81, Tryd.ntmps81
  go_wp2
  go_ret
  exact ⟨rfl, rfl⟩

theorem l1Sign_any {f wd p t S D : Int} (hF : Form f wd p t S D) (n : Bool) (w : World) :
    Calls Tryd.prog 44 #[.int .i64 f, .bool n] w fun e w' => e = .returned (.int .u64 (if n then S else 0)) ∧ w' = w := by
  cases n
  · have hF' := hF
    clear hF
    go_enter Tryd.func44, Tryd.ntmps44
    go_wp2_with (go_at_call 38; refine (l1Form_any hF' _).mono ?_; rintro e w' ⟨rfl, rfl⟩)
    go_ret
    exact ⟨rfl, rfl⟩
  · exact l1Sign_true hF w

theorem l1Inf_any {f wd p t S D h q : Int} (hF : Frm f wd p t S D h q) (n : Bool) (w : World) :
    Calls Tryd.prog 43 #[.int .i64 f, .bool n] w fun e w' => e = .returned (.int .u64 ((2 * t + 1) * h + (if n then S else 0))) ∧ w' = w := by
  have hF' := hF
  rcases hF with ⟨rfl, rfl, rfl, rfl, rfl, rfl, rfl, rfl⟩ | ⟨rfl, rfl, rfl, rfl, rfl, rfl, rfl, rfl⟩ | ⟨rfl, rfl, rfl, rfl, rfl, rfl, rfl, rfl⟩
  all_goals
    cases n
    all_goals
      go_enter Tryd.func43, Tryd.ntmps43
      go_wp2_with (first | (go_at_call 38; refine (l1Form_any hF'.form _).mono ?_; rintro e w' ⟨rfl, rfl⟩) | (go_at_call 44; refine (l1Sign_any hF'.form _ _).mono ?_; rintro e w' ⟨rfl, rfl⟩))
      go_ret
      exact ⟨rfl, rfl⟩
end Go.Proofs.YtcpnmcfpnhokgaaDoor
