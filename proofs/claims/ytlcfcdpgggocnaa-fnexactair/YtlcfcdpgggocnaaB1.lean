/- Signals: which lists are such. -/
import Derived.Test.YtlcfcdpgggocnaaB0
namespace Go.Proofs.Ytlcfcdpgggocnaa
open Go.RowKit

/-- A sample. -/
abbrev Smp (x : Int) : Prop := -1000000000 ≤ x ∧ x ≤ 1000000000

theorem sSmp_any (x : Int) (w : World) : Calls Try.prog 19 #[.int .i64 x] w fun e w' => e = .returned (.bool (decide (Smp x))) ∧ w' = w := by
  have i1 := in_any x (-1000000000) 1000000000
  generalize decide (-1000000000 ≤ x ∧ x ≤ 1000000000) = d at i1
  go_enter Try.func19, Try.ntmps19
  go_wp2_with (first | (go_at_call 12; (with_reducible refine (i1 _).mono ?_); rintro e w' ⟨rfl, hw⟩; obtain rfl := hw.symm))
  go_ret
  exact ⟨rfl, rfl⟩

theorem iSmp_any (x : Int) (w : World) : Calls Try.prog 22 #[.int .i64 x] w fun e w' => e = .returned (.bool (decide (Smp x))) ∧ w' = w := by
  go_enter Try.func22, Try.ntmps22
  by_cases h : -1000000000 ≤ x
  · by_cases h1 : x ≤ 1000000000
    · go_wp2
      go_ret
      exact ⟨by simp [h, h1], rfl⟩
    · go_wp2
      go_ret
      exact ⟨by simp [h1], rfl⟩
  · go_wp2
    go_ret
    exact ⟨by simp; omega, rfl⟩

/-- A signal. -/
abbrev Sig (n : Nat) (xs : Nat → Int) : Prop := n ≤ 512 ∧ ∀ k, k < n → Smp (xs k)

end Go.Proofs.Ytlcfcdpgggocnaa
