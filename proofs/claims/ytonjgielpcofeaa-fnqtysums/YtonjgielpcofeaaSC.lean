/- Sums and products: what the law says of them. -/
import Derived.Test.YtonjgielpcofeaaSB
namespace Go.Proofs.Ytonjgielpcofeaa
open Go.RowKit

theorem mR_units (a1 a2 a3 a4 b1 b2 b3 b4 : Int) (h : (mR a1 a2 a3 a4 b1 b2 b3 b4).2.2.2.2 = true) : (mR a1 a2 a3 a4 b1 b2 b3 b4).2.2.1 = a3 + b3 ∧ (mR a1 a2 a3 a4 b1 b2 b3 b4).2.2.2.1 = a4 + b4 ∧ (-18 ≤ a3 + b3 ∧ a3 + b3 ≤ 18) ∧ -18 ≤ a4 + b4 ∧ a4 + b4 ≤ 18 := by
  unfold mR at h ⊢
  by_cases c : Qok a1 a2 a3 a4 ∧ Qok b1 b2 b3 b4
  · rw [if_pos c] at h ⊢
    have hd : qd (a1 * b1) (a2 + b2) (a3 + b3) (a4 + b4) = true := h
    unfold qd at hd
    have hq := of_decide_eq_true hd
    have ha := c.1
    have hb := c.2
    refine ⟨?_, ?_, ?_, ?_⟩
    · show qv _ _ _ _ = _
      unfold qv
      rw [if_pos hq]
    · show qs _ _ _ _ = _
      unfold qs
      rw [if_pos hq]
    · unfold Qok at ha hb; omega
    · unfold Qok at ha hb; omega
  · rw [if_neg c] at h
    exact absurd h (by simp)

theorem aR_units (a1 a2 a3 a4 b1 b2 b3 b4 : Int) (h : (aR a1 a2 a3 a4 b1 b2 b3 b4).2.2.2.2 = true) : (aR a1 a2 a3 a4 b1 b2 b3 b4).2.2.1 = a3 ∧ (aR a1 a2 a3 a4 b1 b2 b3 b4).2.2.2.1 = a4 := by
  unfold aR at h ⊢
  by_cases c : Qok a1 a2 a3 a4 ∧ Qok b1 b2 b3 b4 ∧ a3 = b3 ∧ a4 = b4
  · simp only [if_pos c] at h ⊢
    by_cases h1 : a1 = 0
    · simp only [if_pos h1] at h ⊢
      exact ⟨c.2.2.1.symm, c.2.2.2.symm⟩
    · by_cases h2 : b1 = 0
      · simp only [if_neg h1, if_pos h2]
        exact ⟨by trivial, by trivial⟩
      · simp only [if_neg h1, if_neg h2] at h ⊢
        by_cases h3 : 9 < (a2 - b2).natAbs
        · simp only [if_pos h3] at h
          exact absurd h (by simp)
        · simp only [if_neg h3] at h ⊢
          generalize a1 * 10 ^ (a2 - b2).toNat + b1 * 10 ^ (b2 - a2).toNat = N at h ⊢
          unfold qd at h
          have hq := of_decide_eq_true h
          refine ⟨?_, ?_⟩
          · unfold qv
            rw [if_pos hq]
          · unfold qs
            rw [if_pos hq]
  · simp only [if_neg c] at h
    exact absurd h (by simp)

theorem aR_fifty : aR 5 1 0 0 50 0 0 0 = (0, 0, 0, 0, false) := by
  unfold aR
  exact if_neg (by decide)

theorem iAdd_fifty (w : World) : Calls Try.prog 10 #[.agg #[.int .i64 5, .int .i64 1, .int .i64 0, .int .i64 0], .agg #[.int .i64 50, .int .i64 0, .int .i64 0, .int .i64 0]] w fun e w' => e = .returned (.tuple #[.agg #[.int .i64 0, .int .i64 0, .int .i64 0, .int .i64 0], .bool false]) ∧ Below w.heap.size w w' := by
  have h := iAdd_any 5 1 0 0 50 0 0 0 w
  rw [aR_fifty] at h
  exact h

theorem aR_three : aR 5 1 0 0 3 0 0 0 = (53, 0, 0, 0, true) := by
  unfold aR
  rw [if_pos (by decide), if_neg (by decide), if_neg (by decide), if_neg (by decide)]
  have e : (5 : Int) * 10 ^ ((1 : Int) - 0).toNat + 3 * 10 ^ ((0 : Int) - 1).toNat = 53 := by decide
  have e2 : min (1 : Int) 0 = 0 := by decide
  obtain ⟨q1, q2, q3, q4, q5⟩ := q_same (show Qok 53 0 0 0 by decide)
  rw [e, e2, q1, q2, q3, q4, q5]

theorem iAdd_three (w : World) : Calls Try.prog 10 #[.agg #[.int .i64 5, .int .i64 1, .int .i64 0, .int .i64 0], .agg #[.int .i64 3, .int .i64 0, .int .i64 0, .int .i64 0]] w fun e w' => e = .returned (.tuple #[.agg #[.int .i64 53, .int .i64 0, .int .i64 0, .int .i64 0], .bool true]) ∧ Below w.heap.size w w' := by
  have h := iAdd_any 5 1 0 0 3 0 0 0 w
  rw [aR_three] at h
  exact h

end Go.Proofs.Ytonjgielpcofeaa
