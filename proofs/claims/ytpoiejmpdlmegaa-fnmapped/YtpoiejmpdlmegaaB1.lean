/- Signals: which lists are such. -/
import Derived.Test.YtpoiejmpdlmegaaB0
namespace Go.Proofs.Ytpoiejmpdlmegaa
open Go.RowKit

/-- A sample. -/
abbrev Smp (x : Int) : Prop := -1000000000 ≤ x ∧ x ≤ 1000000000

theorem iSmp_any (x : Int) (w : World) : Calls Try.prog 34 #[.int .i64 x] w fun e w' => e = .returned (.bool (decide (Smp x))) ∧ w' = w := by
  go_enter Try.func34, Try.ntmps34
  by_cases h : -1000000000 ≤ x
  · by_cases h1 : x ≤ 1000000000
    · go_wp2
      go_ret
      exact ⟨by simp [h, h1], rfl⟩
    · go_wp2
      go_ret
      exact ⟨by simp [h1], rfl⟩
  · go_wp2
    go_ret
    exact ⟨by simp; omega, rfl⟩

/-- A signal. -/
abbrev Sig (n : Nat) (xs : Nat → Int) : Prop := n ≤ 512 ∧ ∀ k, k < n → Smp (xs k)

end Go.Proofs.Ytpoiejmpdlmegaa
