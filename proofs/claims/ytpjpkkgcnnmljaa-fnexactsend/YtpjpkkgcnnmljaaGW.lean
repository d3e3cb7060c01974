/- Words over the field of 256: two that are clean and differ in at most as many places as there are signs are the same. -/
import Derived.Test.YtpjpkkgcnnmljaaGP
namespace Go.Proofs.Ytpjpkkgcnnmljaa
open Go.RowKit

/-- In how many of the first n places something is not nought. -/
def cnt (d : Nat → Nat) : Nat → Nat
  | 0 => 0
  | n + 1 => cnt d n + if d n = 0 then 0 else 1

/-- These places, one behind the other. -/
theorem places (d : Nat → Nat) : ∀ n : Nat, ∃ pl : Nat → Nat, (∀ i, i < cnt d n → pl i < n ∧ d (pl i) ≠ 0) ∧ (∀ i k, i < k → k < cnt d n → pl i < pl k) ∧ (∀ p, p < n → d p ≠ 0 → ∃ i, i < cnt d n ∧ pl i = p) ∧
    ∀ f : Nat → Nat, (∀ p, d p = 0 → f p = 0) → gs f n = gs (fun i => f (pl i)) (cnt d n) := by
  intro n
  induction n with
  | zero => exact ⟨fun _ => 0, fun i hi => absurd hi (by simp [cnt]), fun i k _ hk => absurd hk (by simp [cnt]), fun p hp => absurd hp (by omega), fun f _ => rfl⟩
  | succ n ih =>
    obtain ⟨pl, h1, h2, h3, h4⟩ := ih
    by_cases hd : d n = 0
    · have hc : cnt d (n + 1) = cnt d n := by simp [cnt, hd]
      rw [hc]
      refine ⟨pl, fun i hi => ⟨by have := (h1 i hi).1; omega, (h1 i hi).2⟩, h2, fun p hp hp0 => ?_, fun f hf => ?_⟩
      · by_cases e : p = n
        · subst e; exact absurd hd hp0
        · exact h3 p (by omega) hp0
      · simp only [gs]
        rw [h4 f hf, hf n hd, Nat.xor_zero]
    · have hc : cnt d (n + 1) = cnt d n + 1 := by simp [cnt, hd]
      rw [hc]
      refine ⟨fun i => if i = cnt d n then n else pl i, fun i hi => ?_, fun i k hik hk => ?_, fun p hp hp0 => ?_, fun f hf => ?_⟩
      · by_cases e : i = cnt d n
        · simp only [e, if_true]; exact ⟨by omega, hd⟩
        · simp only [e, if_false]
          have := h1 i (by omega)
          exact ⟨by omega, this.2⟩
      · have hi : i ≠ cnt d n := by omega
        simp only [hi, if_false]
        by_cases e : k = cnt d n
        · simp only [e, if_true]; exact (h1 i (by omega)).1
        · simp only [e, if_false]; exact h2 i k hik (by omega)
      · by_cases e : p = n
        · exact ⟨cnt d n, by omega, by simp [e]⟩
        · obtain ⟨i, hi, hp'⟩ := h3 p (by omega) hp0
          exact ⟨i, by omega, by show (if i = cnt d n then n else pl i) = p; rw [if_neg (by omega)]; exact hp'⟩
      · simp only [gs, if_true]
        rw [h4 f hf]
        congr 1
        exact gs_congr (fun i hi => by rw [if_neg (by omega)])

/-- Signs that are all nought, and at most as many places: nothing is there. -/
theorem clean_none {n t : Nat} {X d : Nat → Nat} (hX : ∀ p, X p < 256) (hd : ∀ p, d p < 256) (hinj : ∀ p q, p < n → q < n → p ≠ q → X p ≠ X q)
    (hS : ∀ j, j < t → gs (fun p => gm (d p) (gpow (X p) j)) n = 0) (hc : cnt d n ≤ t) : ∀ p, p < n → d p = 0 := by
  obtain ⟨pl, h1, h2, h3, h4⟩ := places d n
  have hne : ∀ i k, i < cnt d n → k < cnt d n → i ≠ k → X (pl i) ≠ X (pl k) := fun i k hi hk hik => by
    refine hinj _ _ (h1 i hi).1 (h1 k hk).1 ?_
    rcases Nat.lt_or_ge i k with h | h
    · have := h2 i k h hk; omega
    · have := h2 k i (by omega) hi; omega
  have hv := vand (X := fun i => X (pl i)) (e := fun i => d (pl i)) (fun i => hX _) (fun i => hd _) (m := cnt d n) hne (fun j hj => by
    have h5 := h4 (fun p => gm (d p) (gpow (X p) j)) (fun p hp => by rw [hp]; exact gm_zero_l _)
    rw [hS j (by omega)] at h5
    exact h5.symm)
  intro p hp
  by_cases h0 : d p = 0
  · exact h0
  · obtain ⟨i, hi, rfl⟩ := h3 p hp h0
    exact hv i hi

/-- Where two differ, counted, goes by a third. -/
theorem cnt_tri (a b c : Nat → Nat) (n : Nat) : cnt (fun p => a p ^^^ c p) n ≤ cnt (fun p => a p ^^^ b p) n + cnt (fun p => b p ^^^ c p) n := by
  induction n with
  | zero => exact Nat.le_refl _
  | succ n ih =>
    simp only [cnt]
    have h : (if a n ^^^ c n = 0 then 0 else 1) ≤ (if a n ^^^ b n = 0 then 0 else 1) + (if b n ^^^ c n = 0 then 0 else 1) := by
      by_cases h1 : a n ^^^ b n = 0
      · by_cases h2 : b n ^^^ c n = 0
        · have e1 : a n = b n := by
            by_cases e : a n = b n
            · exact e
            · exact absurd h1 (xor_ne e)
          have e2 : b n = c n := by
            by_cases e : b n = c n
            · exact e
            · exact absurd h2 (xor_ne e)
          rw [e1, e2]
          simp
        · simp only [h2, if_false]
          split <;> omega
      · simp only [h1, if_false]
        split <;> omega
    omega

end Go.Proofs.Ytpjpkkgcnnmljaa
