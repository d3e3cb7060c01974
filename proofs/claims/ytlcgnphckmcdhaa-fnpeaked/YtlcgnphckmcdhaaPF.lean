/- Peaks: what is so of them. -/
import Derived.Test.YtlcgnphckmcdhaaPD
import Derived.Test.YtlcgnphckmcdhaaCB
namespace Go.Proofs.Ytlcgnphckmcdhaa
open Go.RowKit

/-- What is so of peaks. -/
structure PF (high low : Int) (xs : Nat → Int) (k : Nat) (L : List (Int × Int)) (c : Option (Int × Int)) : Prop where
  e1 : ∀ i, i < L.length → ∃ p : Nat, (L.getD i (0, 0)).1 = (p : Int) ∧ p < k ∧ xs p = (L.getD i (0, 0)).2 ∧ high ≤ (L.getD i (0, 0)).2
  e2 : ∀ i, i + 1 < L.length → ∃ j p q : Nat, (L.getD i (0, 0)).1 = (p : Int) ∧ (L.getD (i + 1) (0, 0)).1 = (q : Int) ∧ p < j ∧ j < q ∧ xs j < low
  e3 : c = none → 0 < L.length → ∃ j p : Nat, (L.getD (L.length - 1) (0, 0)).1 = (p : Int) ∧ p < j ∧ j < k ∧ xs j < low
  e4 : 0 < L.length ↔ ∃ j, j < k ∧ high ≤ xs j

theorem pf_any (high low : Int) (xs : Nat → Int) : ∀ k, PF high low xs k (pkl high low xs k) (pst high low xs k).2
  | 0 => ⟨fun i h => absurd h (Nat.not_lt_zero _), fun i h => absurd h (Nat.not_lt_zero _), fun _ h => absurd h (Nat.lt_irrefl _), ⟨fun h => absurd h (Nat.lt_irrefl _), fun ⟨j, h, _⟩ => absurd h (Nat.not_lt_zero _)⟩⟩
  | k + 1 => by
    have ih := pf_any high low xs k
    unfold pkl at ih ⊢
    rw [pst]
    rcases hp : pst high low xs k with ⟨l, _ | ⟨a, s⟩⟩
    · rw [hp] at ih
      obtain ⟨e1, e2, e3, e4⟩ := ih
      dsimp only [rwp] at e1 e2 e3 e4
      by_cases h : high ≤ xs k
      · rw [show pstep high low (k : Int) (xs k) (l, none) = (l, some ((k : Int), xs k)) from if_pos h]
        dsimp only [rwp]
        refine ⟨?_, ?_, fun h => (by cases h), ?_⟩
        · rw [List.length_append, List.length_singleton]
          intro i hi
          by_cases hl : i < l.length
          · rw [getD_app hl]
            obtain ⟨p, h1, h2, h3⟩ := e1 i hl
            exact ⟨p, h1, by omega, h3⟩
          · obtain rfl : i = l.length := by omega
            rw [getD_last]
            exact ⟨k, rfl, by omega, rfl, h⟩
        · rw [List.length_append, List.length_singleton]
          intro i hi
          by_cases hl : i + 1 < l.length
          · rw [getD_app (by omega), getD_app hl]
            exact e2 i hl
          · have hi2 : i + 1 = l.length := by omega
            obtain ⟨j, p, h1, h2, h3, h4⟩ := e3 rfl (by omega)
            rw [← hi2, Nat.add_sub_cancel] at h1
            rw [getD_app (by omega), hi2, getD_last]
            exact ⟨j, p, k, h1, rfl, h2, h3, h4⟩
        · rw [List.length_append, List.length_singleton]
          exact ⟨fun _ => ⟨k, by omega, h⟩, fun _ => by omega⟩
      · rw [show pstep high low (k : Int) (xs k) (l, none) = (l, none) from if_neg h]
        dsimp only [rwp]
        refine ⟨fun i hi => ?_, e2, fun _ h0 => ?_, ?_⟩
        · obtain ⟨p, h1, h2, h3⟩ := e1 i hi
          exact ⟨p, h1, by omega, h3⟩
        · obtain ⟨j, p, h1, h2, h3, h4⟩ := e3 rfl h0
          exact ⟨j, p, h1, h2, by omega, h4⟩
        · rw [e4]
          refine ⟨fun ⟨j, h1, h2⟩ => ⟨j, by omega, h2⟩, fun ⟨j, h1, h2⟩ => ⟨j, ?_, h2⟩⟩
          rcases Nat.lt_or_ge j k with g | g
          · exact g
          · obtain rfl : j = k := by omega
            exact absurd h2 h
    · rw [hp] at ih
      obtain ⟨e1, e2, e3, e4⟩ := ih
      dsimp only [rwp] at e1 e2 e3 e4
      have hlen : (l ++ [(a, s)]).length = l.length + 1 := by rw [List.length_append, List.length_singleton]
      obtain ⟨pa, hpa, hpk, hps, hph⟩ := e1 l.length (by omega)
      rw [getD_last] at hpa hps hph
      dsimp only at hpa hps hph
      have old : ∀ c', (c' = none → ∃ j p : Nat, ((l ++ [(a, s)]).getD ((l ++ [(a, s)]).length - 1) (0, 0)).1 = (p : Int) ∧ p < j ∧ j < k + 1 ∧ xs j < low) → PF high low xs (k + 1) (l ++ [(a, s)]) c' := fun c' hc' => ⟨fun i hi => by
          obtain ⟨p, h1, h2, h3⟩ := e1 i hi
          exact ⟨p, h1, by omega, h3⟩, e2, fun h _ => hc' h, ⟨fun h => by
          obtain ⟨j, h1, h2⟩ := e4.1 h
          exact ⟨j, by omega, h2⟩, fun _ => by omega⟩⟩
      by_cases h : xs k < low
      · rw [show pstep high low (k : Int) (xs k) (l, some (a, s)) = (l ++ [(a, s)], none) from if_pos h]
        dsimp only [rwp]
        refine old none fun _ => ⟨k, pa, ?_, hpk, by omega, h⟩
        rw [hlen, Nat.add_sub_cancel, getD_last]
        exact hpa
      · by_cases h1 : s < xs k
        · rw [show pstep high low (k : Int) (xs k) (l, some (a, s)) = (l, some ((k : Int), xs k)) from (if_neg h).trans (if_pos h1)]
          dsimp only [rwp]
          refine ⟨?_, ?_, fun h => (by cases h), ?_⟩
          · rw [List.length_append, List.length_singleton]
            intro i hi
            by_cases hl : i < l.length
            · rw [getD_app hl]
              obtain ⟨p, h1, h2, h3⟩ := e1 i (by omega)
              rw [getD_app hl] at h1 h3
              exact ⟨p, h1, by omega, h3⟩
            · obtain rfl : i = l.length := by omega
              rw [getD_last]
              exact ⟨k, rfl, by omega, rfl, by show high ≤ xs k; omega⟩
          · rw [List.length_append, List.length_singleton]
            intro i hi
            obtain ⟨j, p, q, h2, h3, h4, h5, h6⟩ := e2 i (by omega)
            by_cases hl : i + 1 < l.length
            · rw [getD_app (by omega)] at h2
              rw [getD_app hl] at h3
              rw [getD_app (by omega), getD_app hl]
              exact ⟨j, p, q, h2, h3, h4, h5, h6⟩
            · have hi2 : i + 1 = l.length := by omega
              rw [getD_app (by omega)] at h2
              rw [hi2, getD_last] at h3
              rw [getD_app (by omega), hi2, getD_last]
              dsimp only at h3
              exact ⟨j, p, k, h2, rfl, h4, by omega, h6⟩
          · rw [List.length_append, List.length_singleton]
            exact ⟨fun _ => ⟨pa, by omega, by rw [hps]; exact hph⟩, fun _ => by omega⟩
        · rw [show pstep high low (k : Int) (xs k) (l, some (a, s)) = (l, some (a, s)) from (if_neg h).trans (if_neg h1)]
          dsimp only [rwp]
          exact old (some (a, s)) (fun h => by cases h)

/-- All samples are counted. -/
theorem cnt_sum (cs : Nat → Int) (xs : Nat → Int) : ∀ n, cnt cs 2 xs n 0 + cnt cs 2 xs n 1 + cnt cs 2 xs n 2 = (n : Int)
  | 0 => rfl
  | n + 1 => by
    have ih := cnt_sum cs xs n
    have h := fi_le cs (xs n) 2
    rw [cnt, cnt, cnt]
    generalize fi cs (xs n) 2 = f at h ⊢
    have h3 : f = 0 ∨ f = 1 ∨ f = 2 := by omega
    rcases h3 with rfl | rfl | rfl <;> simp <;> omega
end Go.Proofs.Ytlcgnphckmcdhaa
