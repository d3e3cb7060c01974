/- The model's draw of bits of a form. -/
import Derived.Test.YtcpnmcfpnhokgaaDoorD2
namespace Go.Proofs.YtcpnmcfpnhokgaaDoor
open Go.RowKit

theorem dsign_any {f wd p t S D : Int} (hF : Form f wd p t S D) (b : Bool) (w : World) :
    Calls Tryd.prog 44 #[.int .i64 f, .bool b] w fun e w' => ∃ s : Int, 0 ≤ s ∧ s ≤ 9223372036854775808 ∧ e = .returned (.int .u64 s) ∧ w' = w := by
  cases b
  · have hF' := hF
    rcases hF with ⟨rfl, rfl, rfl, rfl, rfl, rfl⟩ | ⟨rfl, rfl, rfl, rfl, rfl, rfl⟩ | ⟨rfl, rfl, rfl, rfl, rfl, rfl⟩
    all_goals
      go_enter Tryd.func44, Tryd.ntmps44
      go_wp2_with (go_at_call 38; refine (l1Form_any hF' _).mono ?_; rintro e w' ⟨rfl, rfl⟩)
      go_ret
      exact ⟨0, by decide, by decide, rfl, rfl⟩
  · refine (l1Sign_true hF w).mono fun e w' h => ⟨S, ?_, ?_, h.1, h.2⟩
    · rcases hF with ⟨_, _, _, _, rfl, _⟩ | ⟨_, _, _, _, rfl, _⟩ | ⟨_, _, _, _, rfl, _⟩ <;> decide
    · rcases hF with ⟨_, _, _, _, rfl, _⟩ | ⟨_, _, _, _, rfl, _⟩ | ⟨_, _, _, _, rfl, _⟩ <;> decide

set_option maxHeartbeats 4000000 in
theorem dbits_any {W w : World} {c : Nat} {a : Option Addr} {len cap : Nat} (h : Cur W w c a len cap) {f wd p t S D hh q : Int} (hF : Frm f wd p t S D hh q) :
    Calls Tryd.prog 55 #[.pointer (some ⟨c, 0, none⟩), .int .i64 f] w fun e w' => ∃ x : Int, 0 ≤ x ∧ x < 18446744073709551616 ∧ e = .returned (.int .u64 x) ∧ Cur W w' c a len cap := by
  have HC : Hid (Cur W w c a len cap) := h
  have hG := fun w => l1Form_any hF.form w
  have hS := fun b w => dsign_any hF.form b w
  have hI := fun w => l1Inf_false hF w
  have hP := fun w => l1Plain_any hF w
  clear h
  rcases hF with ⟨rfl, rfl, rfl, rfl, rfl, rfl, rfl, rfl⟩ | ⟨rfl, rfl, rfl, rfl, rfl, rfl, rfl, rfl⟩ | ⟨rfl, rfl, rfl, rfl, rfl, rfl, rfl, rfl⟩
  all_goals
    go_enter Tryd.func55, Tryd.ntmps55
    go_wp2_with (first | (go_at_call 38; refine (hG _).mono ?_; rintro e w' ⟨rfl, hw⟩; replace hw := hw.symm; subst hw) | (go_at_call 44; refine (hS _ _).mono ?_; rintro e w' ⟨s, hs0, hs1, rfl, hw⟩; replace hw := hw.symm; subst hw) | (go_at_call 43; refine (hI _).mono ?_; rintro e w' ⟨rfl, hw⟩; replace hw := hw.symm; subst hw) | (go_at_call 31; refine (hP _).mono ?_; rintro e w' ⟨rfl, hw⟩; replace hw := hw.symm; subst hw) | (go_at_call 56; refine (once_any HC.out 2 (by decide) (by decide)).mono ?_; rintro e w' ⟨x, rfl, _, hc⟩; have HC : Hid (Cur W w' c a len cap) := hc; clear hc) | (go_at_call 57; refine (below_any HC.out _ (by decide) (by decide)).mono ?_; rintro e w' ⟨x, hx0, hx1, rfl, _, hc⟩; have HC : Hid (Cur W w' c a len cap) := hc; clear hc) | (go_at_call 54; refine (word_any HC.out).mono ?_; rintro e w' ⟨x, hx0, hx1, rfl, hc⟩; have HC : Hid (Cur W w' c a len cap) := hc; clear hc))
    all_goals
      go_ret
      refine ⟨_, ?_, ?_, rfl, HC.out⟩ <;> first | omega | exact (u64r _).1 | exact (u64r _).2
end Go.Proofs.YtcpnmcfpnhokgaaDoor
