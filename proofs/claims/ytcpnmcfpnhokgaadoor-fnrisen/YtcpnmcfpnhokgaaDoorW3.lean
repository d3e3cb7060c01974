/- The walks of the model's Order. -/
import Derived.Test.YtcpnmcfpnhokgaaDoorW1
import Derived.WalkSpells
import Derived.WalkLawsBesides
namespace Go.Proofs.YtcpnmcfpnhokgaaDoor
open Go.RowKit

theorem l1Form_no (form : Int) (w : World) (h : form < 1 ∨ 3 < form) :
    Calls Tryd.prog 38 #[.int .i64 form] w fun e w' => e = .returned (.tuple #[.int .i64 0, .int .i64 0, .int .i64 0, .bool false]) ∧ w' = w := by
  have h1 : (form == 1) = false := by simp; omega
  have h2 : (form == 2) = false := by simp; omega
  have h3 : (form == 3) = false := by simp; omega
  clear h
  go_enter Tryd.func38, Tryd.ntmps38
  go_wp2
  exact bodyPost_ret (v := .tuple #[.int .i64 0, .int .i64 0, .int .i64 0, .bool false]) (by simp [results, Tryd.results38, go_sem]) rfl ⟨rfl, rfl⟩

theorem l1Form_any {f wd p t S D : Int} (hF : Form f wd p t S D) (w : World) :
    Calls Tryd.prog 38 #[.int .i64 f] w fun e w' => e = .returned (.tuple #[.int .i64 wd, .int .i64 p, .int .i64 t, .bool true]) ∧ w' = w := by
  rcases hF with ⟨rfl, rfl, rfl, rfl, rfl, rfl⟩ | ⟨rfl, rfl, rfl, rfl, rfl, rfl⟩ | ⟨rfl, rfl, rfl, rfl, rfl, rfl⟩
  all_goals
    go_enter Tryd.func38, Tryd.ntmps38
    go_wp2
    refine bodyPost_ret (v := .tuple #[.int .i64 _, .int .i64 _, .int .i64 _, .bool true]) (by simp [results, Tryd.results38, go_sem]) rfl ⟨rfl, rfl⟩

theorem l1Are_no (form x : Int) (w : World) (h : form < 1 ∨ 3 < form) :
    Calls Tryd.prog 39 #[.int .i64 form, .int .u64 x] w fun e w' => e = .returned (.bool false) ∧ w' = w := by
  go_enter Tryd.func39, Tryd.ntmps39
  go_wp2_with (go_at_call 38; refine (l1Form_no _ _ h).mono ?_; rintro e w' ⟨rfl, rfl⟩)
  go_ret
  exact ⟨rfl, rfl⟩

theorem l1Are_any {f wd p t S D : Int} (hF : Form f wd p t S D) (x : Int) (h0 : 0 ≤ x) (h1 : x < 18446744073709551616) (w : World) :
    Calls Tryd.prog 39 #[.int .i64 f, .int .u64 x] w fun e w' => e = .returned (.bool (x / D == 0)) ∧ w' = w := by
  have hF' := hF
  rcases hF with ⟨rfl, rfl, rfl, rfl, rfl, rfl⟩ | ⟨rfl, rfl, rfl, rfl, rfl, rfl⟩ | ⟨rfl, rfl, rfl, rfl, rfl, rfl⟩
  · go_enter Tryd.func39, Tryd.ntmps39
    go_wp2_with (go_at_call 38; refine (l1Form_any hF' _).mono ?_; rintro e w' ⟨rfl, rfl⟩)
    go_ret
    exact ⟨rfl, rfl⟩
  · go_enter Tryd.func39, Tryd.ntmps39
    go_wp2_with (go_at_call 38; refine (l1Form_any hF' _).mono ?_; rintro e w' ⟨rfl, rfl⟩)
    go_ret
    exact ⟨rfl, rfl⟩
  · have h2 : (x / 18446744073709551616 == 0) = true := by
      rw [beq_iff_eq]
      exact Int.ediv_eq_zero_of_lt h0 h1
    rw [h2]
    clear h2 h1
    go_enter Tryd.func39, Tryd.ntmps39
    go_wp2_with (go_at_call 38; refine (l1Form_any hF' _).mono ?_; rintro e w' ⟨rfl, rfl⟩)
    go_ret
    exact ⟨rfl, rfl⟩

theorem l1Sign_true {f wd p t S D : Int} (hF : Form f wd p t S D) (w : World) :
    Calls Tryd.prog 44 #[.int .i64 f, .bool true] w fun e w' => e = .returned (.int .u64 S) ∧ w' = w := by
  have hF' := hF
  rcases hF with ⟨rfl, rfl, rfl, rfl, rfl, rfl⟩ | ⟨rfl, rfl, rfl, rfl, rfl, rfl⟩ | ⟨rfl, rfl, rfl, rfl, rfl, rfl⟩
  all_goals
    go_enter Tryd.func44, Tryd.ntmps44
    go_wp2_with (go_at_call 38; refine (l1Form_any hF' _).mono ?_; rintro e w' ⟨rfl, rfl⟩)
    go_ret
    exact ⟨rfl, rfl⟩

/-- The order of all bits, of a form whose sign bit is S. -/
def ord (S x y : Int) : Int :=
  if x = y then 0 else if S ≤ x ∧ y < S then -1 else if x < S ∧ S ≤ y then 1 else if (x < S ∧ x < y) ∨ (S ≤ x ∧ y < x) then -1 else 1

theorem and_any {f wd p t S D : Int} (hF : Form f wd p t S D) (x : Int) (h0 : 0 ≤ x) (h1 : x < D) :
    bits .and .u64 x S = (if x < S then 0 else S) ∧ bits .andNot .u64 x S = (if x < S then x else x - S) := by
  rcases hF with ⟨rfl, rfl, rfl, rfl, rfl, rfl⟩ | ⟨rfl, rfl, rfl, rfl, rfl, rfl⟩ | ⟨rfl, rfl, rfl, rfl, rfl, rfl⟩
  · exact and16 x h0 h1
  · exact and32 x h0 h1
  · exact and64 x h0 h1

end Go.Proofs.YtcpnmcfpnhokgaaDoor
