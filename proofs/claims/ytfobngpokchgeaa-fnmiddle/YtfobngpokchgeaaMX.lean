/- Middles: how many lie below and above, in plain numbers. -/
import Derived.Test.YtfobngpokchgeaaMM
namespace Go.Proofs.Ytfobngpokchgeaa
open Go.RowKit

/-- How many of the first j are such. -/
def cnt (p : Int → Bool) (f : Nat → Int) (j : Nat) : Nat := (ofF f j).countP p

theorem cnt_zero (p : Int → Bool) (f : Nat → Int) : cnt p f 0 = 0 := rfl

theorem cnt_succ (p : Int → Bool) (f : Nat → Int) (j : Nat) : cnt p f (j + 1) = cnt p f j + if p (f j) = true then 1 else 0 := by
  unfold cnt ofF
  rw [List.range_succ, List.map_append, List.countP_append]
  simp [List.countP_cons]

theorem cnt_len (p : Int → Bool) (f : Nat → Int) (j : Nat) : cnt p f j ≤ j := by
  have := List.countP_le_length (p := p) (l := ofF f j)
  rw [ofF_length] at this
  exact this

theorem cnt_low {p : Int → Bool} {g : Nat → Int} {h : Nat} : ∀ n, (∀ t, h ≤ t → t < n → p (g t) = false) → cnt p g n ≤ h
  | 0, _ => Nat.zero_le _
  | n + 1, hp => by
    by_cases q : n < h
    · exact Nat.le_trans (cnt_len p g (n + 1)) q
    · rw [cnt_succ, hp n (by omega) (by omega)]
      exact cnt_low n (fun t h1 h2 => hp t h1 (by omega))

theorem cnt_high {p : Int → Bool} {g : Nat → Int} {h : Nat} : ∀ n, (∀ t, t ≤ h → p (g t) = false) → cnt p g n ≤ n - (h + 1)
  | 0, _ => Nat.zero_le _
  | n + 1, hp => by
    have ih := cnt_high n hp
    rw [cnt_succ]
    by_cases q : n ≤ h
    · rw [hp n q]
      simp only [Bool.false_eq_true, if_false]
      omega
    · split <;> omega

theorem srt_ord (n : Nat) (f : Nat → Int) : Ord (srt n f) n := by
  intro a b hab hb
  have hp := List.pairwise_mergeSort (le := fun x y => decide (x ≤ y)) (fun a b c h1 h2 => by simp only [decide_eq_true_eq] at h1 h2 ⊢; omega) (fun a b => by simp only [Bool.or_eq_true, decide_eq_true_eq]; omega) (ofF f n)
  rw [← srt_ofF, List.pairwise_iff_getElem] at hp
  have := hp a b (by rw [ofF_length]; omega) (by rw [ofF_length]; omega) hab
  rw [ofF_get, ofF_get, decide_eq_true_eq] at this
  exact this

theorem cnt_srt (p : Int → Bool) (n : Nat) (f : Nat → Int) : cnt p f n = cnt p (srt n f) n := by
  unfold cnt
  rw [srt_ofF]
  exact ((List.mergeSort_perm _ _).countP_eq p).symm

theorem mid_below (h : Nat) (f : Nat → Int) : cnt (fun z => decide (z < srt (2 * h + 1) f h)) f (2 * h + 1) ≤ h := by
  rw [cnt_srt]
  refine cnt_low _ (fun t h1 h2 => ?_)
  rcases Nat.eq_or_lt_of_le h1 with e | e
  · subst e; simp
  · have := srt_ord (2 * h + 1) f h t e h2
    simp only [decide_eq_false_iff_not]; omega

theorem mid_above (h : Nat) (f : Nat → Int) : cnt (fun z => decide (srt (2 * h + 1) f h < z)) f (2 * h + 1) ≤ h := by
  rw [cnt_srt]
  refine Nat.le_trans (cnt_high (h := h) _ (fun t h1 => ?_)) (by omega)
  rcases Nat.eq_or_lt_of_le h1 with e | e
  · subst e; simp
  · have := srt_ord (2 * h + 1) f t h e (by omega)
    simp only [decide_eq_false_iff_not]; omega
end Go.Proofs.Ytfobngpokchgeaa
