/- The model's draw of bits of a form. -/
import Derived.Test.YtcmjhgijejmiaaaQD2
namespace Go.Proofs.Ytcmjhgijejmiaaa.Q
open Go.RowKit

theorem l1SignD_any {f wd p t S D : Int} (hF : Form f wd p t S D) (b : Bool) (w : World) :
    Calls Try.prog 20 #[.int .i64 f, .bool b] w fun e w' => ∃ s : Int, 0 ≤ s ∧ s ≤ 9223372036854775808 ∧ e = .returned (.int .u64 s) ∧ w' = w := by
  cases b
  · have hF' := hF
    rcases hF with ⟨rfl, rfl, rfl, rfl, rfl, rfl⟩ | ⟨rfl, rfl, rfl, rfl, rfl, rfl⟩ | ⟨rfl, rfl, rfl, rfl, rfl, rfl⟩
    all_goals
      go_enter Try.func20, Try.ntmps20
      go_wp2_with (go_at_call 26; refine (l1Form_any hF' _).mono ?_; rintro e w' ⟨rfl, rfl⟩)
      go_ret
      exact ⟨0, by decide, by decide, rfl, rfl⟩
  · refine (l1Sign_true hF w).mono fun e w' h => ⟨S, ?_, ?_, h.1, h.2⟩
    · rcases hF with ⟨_, _, _, _, rfl, _⟩ | ⟨_, _, _, _, rfl, _⟩ | ⟨_, _, _, _, rfl, _⟩ <;> decide
    · rcases hF with ⟨_, _, _, _, rfl, _⟩ | ⟨_, _, _, _, rfl, _⟩ | ⟨_, _, _, _, rfl, _⟩ <;> decide

set_option maxHeartbeats 4000000 in
theorem dbits_any {W w : World} {c : Nat} {a : Option Addr} {len cap : Nat} (h : Cur W w c a len cap) {f wd p t S D hh q : Int} (hF : Frm f wd p t S D hh q) :
    Calls Try.prog 18 #[.pointer (some ⟨c, 0, none⟩), .int .i64 f] w fun e w' => ∃ x : Int, 0 ≤ x ∧ x < 18446744073709551616 ∧ e = .returned (.int .u64 x) ∧ Cur W w' c a len cap := by
  have HC : Hid (Cur W w c a len cap) := h
  have hG := fun w => l1Form_any hF.form w
  have hS := fun b w => l1SignD_any hF.form b w
  have hI := fun w => l1Inf_false hF w
  have hP := fun w => l1Plain_any hF w
  clear h
  rcases hF with ⟨rfl, rfl, rfl, rfl, rfl, rfl, rfl, rfl⟩ | ⟨rfl, rfl, rfl, rfl, rfl, rfl, rfl, rfl⟩ | ⟨rfl, rfl, rfl, rfl, rfl, rfl, rfl, rfl⟩
  all_goals
    go_enter Try.func18, Try.ntmps18
    go_wp2_with (first | (go_at_call 26; refine (hG _).mono ?_; rintro e w' ⟨rfl, hw⟩; replace hw := hw.symm; subst hw) | (go_at_call 20; refine (hS _ _).mono ?_; rintro e w' ⟨s, hs0, hs1, rfl, hw⟩; replace hw := hw.symm; subst hw) | (go_at_call 21; refine (hI _).mono ?_; rintro e w' ⟨rfl, hw⟩; replace hw := hw.symm; subst hw) | (go_at_call 19; refine (hP _).mono ?_; rintro e w' ⟨rfl, hw⟩; replace hw := hw.symm; subst hw) | (go_at_call 11; refine (once_any HC.out 2 (by decide) (by decide)).mono ?_; rintro e w' ⟨x, rfl, _, hc⟩; have HC : Hid (Cur W w' c a len cap) := hc; clear hc) | (go_at_call 12; refine (below_any HC.out _ (by decide) (by decide)).mono ?_; rintro e w' ⟨x, hx0, hx1, rfl, _, hc⟩; have HC : Hid (Cur W w' c a len cap) := hc; clear hc) | (go_at_call 27; refine (word_any HC.out).mono ?_; rintro e w' ⟨x, hx0, hx1, rfl, hc⟩; have HC : Hid (Cur W w' c a len cap) := hc; clear hc))
    all_goals
      go_ret
      refine ⟨_, ?_, ?_, rfl, HC.out⟩ <;> first | omega | exact (u64r _).1 | exact (u64r _).2
end Go.Proofs.Ytcmjhgijejmiaaa.Q
