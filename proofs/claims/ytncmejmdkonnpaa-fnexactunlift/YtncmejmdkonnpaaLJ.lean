/- LiftOnce: both sides. -/
import Derived.Test.YtncmejmdkonnpaaSP
import Derived.Test.YtncmejmdkonnpaaLH
import Derived.Test.YtncmejmdkonnpaaLI
namespace Go.Proofs.Ytncmejmdkonnpaa
open Go.RowKit

theorem sKind_any (x : Int) (w : World) : Calls Try.prog 10 #[.int .i64 x] w fun e w' => e = .returned (.bool (decide (Knd x))) ∧ w' = w := by
  have i1 := in_any x 1 3
  generalize decide (1 ≤ x ∧ x ≤ 3) = d at i1
  go_enter Try.func10, Try.ntmps10
  go_wp2_with (first | (go_at_call 12; (with_reducible refine (i1 _).mono ?_); rintro e w' ⟨rfl, hw⟩; obtain rfl := hw.symm))
  go_ret
  exact ⟨rfl, rfl⟩

theorem iKind_any (x : Int) (w : World) : Calls Try.prog 14 #[.int .i64 x] w fun e w' => e = .returned (.bool (decide (Knd x))) ∧ w' = w := by
  go_enter Try.func14, Try.ntmps14
  by_cases h : 1 ≤ x
  · by_cases h1 : x ≤ 3
    · go_wp2
      go_ret
      exact ⟨by simp [h, h1], rfl⟩
    · go_wp2
      go_ret
      exact ⟨by simp [h1], rfl⟩
  · go_wp2
    go_ret
    exact ⟨by simp; omega, rfl⟩

/-- Two lists and a bool told. -/
def P3 (w w' : World) (e : Ending) (n m : Nat) (ys zs : Nat → Int) (ok : Bool) : Prop := ∃ u0 u1, e = .returned (.tuple #[u0, u1, .bool ok]) ∧ w'.ownsRow w.heap.size 3 1 u0 n (ils ys n) ∧ w'.ownsRow w.heap.size 3 1 u1 m (ils zs m) ∧ Apart u0 u1 ∧ Below w.heap.size w w'

theorem sig_with {n : Nat} {xs : Nat → Int} (h : Sig n xs) : Wth 1000000000 n xs := h.2

end Go.Proofs.Ytncmejmdkonnpaa
