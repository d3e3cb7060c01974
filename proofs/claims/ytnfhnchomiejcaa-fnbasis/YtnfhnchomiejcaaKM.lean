/- What is so of the words of a basis. -/
import Derived.Test.YtnfhnchomiejcaaBD
import Derived.Test.YtnfhnchomiejcaaFA
namespace Go.Proofs.Ytnfhnchomiejcaa
open Go.RowKit

/-- The columns that lead no row. -/
noncomputable def frc (S : Gj) : Nat → List Nat
  | 0 => []
  | c + 1 => if yb (∃ k, k < S.L.length ∧ lf S.L k = (c : Int)) = true then frc S c else frc S c ++ [c]

theorem frc_bsl (S : Gj) : ∀ c, bsl S c = (frc S c).map (fun q => wdf S.R (lf S.L) q S.L.length)
  | 0 => rfl
  | c + 1 => by
    unfold bsl frc
    rw [frc_bsl S c]
    split
    · rfl
    · rw [List.map_append]; rfl

theorem frc_lt (S : Gj) : ∀ c q, q ∈ frc S c → q < c ∧ ∀ k, k < S.L.length → lf S.L k ≠ (q : Int)
  | 0, q, h => by cases h
  | c + 1, q, h => by
    by_cases e : ∃ k, k < S.L.length ∧ lf S.L k = (c : Int)
    · have e2 : frc S (c + 1) = frc S c := by rw [frc, yb_yes e, if_pos rfl]
      rw [e2] at h
      have := frc_lt S c q h
      exact ⟨by omega, this.2⟩
    · have e2 : frc S (c + 1) = frc S c ++ [c] := by rw [frc, yb_no e, if_neg (by decide)]
      rw [e2] at h
      rcases List.mem_append.1 h with h | h
      · have := frc_lt S c q h
        exact ⟨by omega, this.2⟩
      · have := List.mem_singleton.1 h
        subst this
        exact ⟨by omega, fun k hk hq => e ⟨k, hk, hq⟩⟩

theorem frc_nodup (S : Gj) : ∀ c, (frc S c).Nodup
  | 0 => List.nodup_nil
  | c + 1 => by
    unfold frc
    split
    · exact frc_nodup S c
    · refine List.nodup_append.2 ⟨frc_nodup S c, by simp, fun a ha b hb => ?_⟩
      have := (frc_lt S c a ha).1
      have hb := List.mem_singleton.1 hb
      omega

/-- Each word is one of a free column, and each of these columns is of one word alone. -/
theorem words_free {M n : Nat} {S : Gj} (_ : Gi M n n S) : ∃ fc : Nat → Nat, (∀ i, i < (bsl S n).length → fc i < n ∧ wf (bsl S n) i = wdf S.R (lf S.L) (fc i) S.L.length ∧ ∀ k, k < S.L.length → lf S.L k ≠ (fc i : Int)) ∧ ∀ i o, i < (bsl S n).length → o < (bsl S n).length → o ≠ i → fc o ≠ fc i := by
  have hlen : (bsl S n).length = (frc S n).length := by rw [frc_bsl, List.length_map]
  refine ⟨fun i => (frc S n).getD i 0, fun i hi => ?_, fun i o hi ho hne he => ?_⟩
  · rw [hlen] at hi
    have hm : (frc S n).getD i 0 ∈ frc S n := by
      rw [List.getD_eq_getElem?_getD, List.getElem?_eq_getElem hi]
      exact List.getElem_mem hi
    refine ⟨(frc_lt S n _ hm).1, ?_, (frc_lt S n _ hm).2⟩
    unfold wf
    show _ = wdf S.R (lf S.L) ((frc S n).getD i 0) S.L.length
    rw [frc_bsl, List.getD_eq_getElem?_getD, List.getElem?_map, List.getD_eq_getElem?_getD, List.getElem?_eq_getElem hi]
    rfl
  · rw [hlen] at hi ho
    simp only [List.getD_eq_getElem?_getD, List.getElem?_eq_getElem hi, List.getElem?_eq_getElem ho, Option.getD_some] at he
    have hp := List.pairwise_iff_getElem.1 (frc_nodup S n)
    rcases Nat.lt_or_gt_of_ne hne with hlt | hlt
    · exact hp o i ho hi hlt he
    · exact hp i o hi ho hlt he.symm

/-- The sum of some of the words: b says which. -/
def wsum (b : Nat → Bool) (Z : Nat → Nat → Int) : Nat → Nat → Int
  | 0 => fun _ => 0
  | i + 1 => fun k => if b i = true then xb (wsum b Z i k) (Z i k) else wsum b Z i k

/-- What is so of the basis' words: bits, orthogonal to the checks; each alone in a place. -/
structure Bas (M n N : Nat) (ms : Nat → Nat) (X : Nat → Nat → Int) (Z : Nat → Nat → Int) : Prop where
  le : N ≤ n
  bit : ∀ i k, i < N → k < n → Bit (Z i k)
  orth : ∀ i, i < N → ∀ j, j < M → dt (r0 (X j) (ms j)) (Z i) n = 0
  alone : ∀ i, i < N → ∃ p, p < n ∧ Z i p = 1 ∧ ∀ o, o < N → o ≠ i → Z o p = 0

theorem bas_of {M n : Nat} {ms : Nat → Nat} {X : Nat → Nat → Int} {S : Gj} (hS : S = gj M (fun i => r0 (X i) (ms i)) n) : Bas M n (bsl S n).length ms X (wf (bsl S n)) := by
  have hb0 : ∀ i k, i < M → k < n → Bit ((fun i => r0 (X i) (ms i)) i k) := fun i k _ _ => r0_bit _ _ _
  have hg : Gi M n n S := by rw [hS]; exact gi_all hb0 n (Nat.le_refl _)
  obtain ⟨fc, h1, h2⟩ := words_free hg
  have hbit : ∀ i k, i < (bsl S n).length → Bit (wf (bsl S n) i k) := fun i k hi => by
    rw [(h1 i hi).2.1]
    exact wdf_bit (m := S.L.length) (fun j hj => hg.bit j _ (Nat.lt_of_lt_of_le hj hg.len) (h1 i hi).1) _ (Nat.le_refl _) _
  have hne : ∀ i, i < (bsl S n).length → ∀ j, j < S.L.length → fc i ≠ (lf S.L j).toNat := fun i hi j hj e => by
    have a1 := hg.lead j hj
    have a2 := (h1 i hi).2.2 j hj
    omega
  refine ⟨bsl_len S n, fun i k hi _ => hbit i k hi, fun i hi => ?_, fun i hi => ⟨fc i, (h1 i hi).1, ?_, fun o ho hoi => ?_⟩⟩
  · refine orth_all hb0 (fun k _ => hbit i k hi) n (Nat.le_refl _) ?_
    rw [← hS, (h1 i hi).2.1]
    exact word_orth hg (h1 i hi).1 (h1 i hi).2.2
  · rw [(h1 i hi).2.1, wdf_far _ (hne i hi), if_pos rfl]
  · rw [(h1 o ho).2.1, wdf_far _ (hne i hi), if_neg (fun e => h2 i o hi ho hoi e.symm)]

theorem wsum_bit {M n N : Nat} {ms : Nat → Nat} {X Z : Nat → Nat → Int} (h : Bas M n N ms X Z) (b : Nat → Bool) : ∀ i, i ≤ N → ∀ k, k < n → Bit (wsum b Z i k)
  | 0, _, _, _ => .inl rfl
  | i + 1, hi, k, hk => by
    unfold wsum
    split
    · exact xb_bit _ _
    · exact wsum_bit h b i (by omega) k hk

theorem wsum_orth {M n N : Nat} {ms : Nat → Nat} {X Z : Nat → Nat → Int} (h : Bas M n N ms X Z) (b : Nat → Bool) : ∀ i, i ≤ N → ∀ j, j < M → dt (r0 (X j) (ms j)) (wsum b Z i) n = 0
  | 0, _, j, _ => by rw [dt_comm]; exact dt_nul (fun _ _ => rfl)
  | i + 1, hi, j, hj => by
    by_cases e : b i = true
    · have e2 : wsum b Z (i + 1) = fun k => xb (wsum b Z i k) (Z i k) := by funext k; show (if b i = true then _ else _) = _; rw [if_pos e]
      rw [e2, dt_comm, dt_xb (wsum_bit h b i (by omega)) (fun k hk => h.bit i k (by omega) hk) (fun k _ => r0_bit _ _ _), dt_comm _ (r0 (X j) (ms j)), dt_comm _ (r0 (X j) (ms j)), wsum_orth h b i (by omega) j hj, h.orth i (by omega) j hj]
      rfl
    · have e2 : wsum b Z (i + 1) = wsum b Z i := by funext k; show (if b i = true then _ else _) = _; rw [if_neg e]
      rw [e2]
      exact wsum_orth h b i (by omega) j hj

/-- No check fails for a sum of the basis' words. -/
theorem wsum_good {M n N : Nat} {ms : Nat → Nat} {X Z : Nat → Nat → Int} (h : Bas M n N ms X Z) (hk : Cks M ms X (n : Int)) (b : Nat → Bool) : fls ms X (wsum b Z N) M = [] :=
  fls_none (fun k hk' => (hk.2 k hk').2) (wsum_bit h b N (Nat.le_refl _)) (fun j hj => wsum_orth h b N (Nat.le_refl _) j hj) M (Nat.le_refl _)

def xy : Nat → Int := fun i => if i = 0 then 0 else 1

/-- The one check of two places has one word. -/
theorem one_check : Cks 1 (fun _ => 2) (fun _ => xy) ((2 : Nat) : Int) := by
  refine ⟨⟨⟨by decide, by decide⟩, by decide⟩, fun k _ => ⟨⟨(by decide : 2 ≤ 2), (by decide : 2 ≤ 16)⟩, ⟨fun k hk => ?_, fun k hk => ?_⟩⟩⟩
  · have hk2 : k < 2 := hk
    match k, hk2 with
    | 0, _ => show 0 ≤ xy 0 ∧ xy 0 < 2; decide
    | 1, _ => show 0 ≤ xy 1 ∧ xy 1 < 2; decide
  · have hk2 : k + 1 < 2 := hk
    obtain rfl : k = 0 := by omega
    show xy 0 < xy 1
    decide

theorem one_basis : ∃ S, S = gj 1 (fun i => r0 ((fun _ => xy) i) ((fun _ => 2) i)) 2 ∧ (bsl S 2).length = 1 ∧ ∀ k, k < 1 → ∀ j, j < 2 → wf (bsl S 2) k j = 1 := by
  refine ⟨_, rfl, ?_⟩
  have hL : (gj 1 (fun i => r0 ((fun _ => xy) i) ((fun _ => 2) i)) 2).L = [0] := by decide
  have hw : ∀ j, j < 2 → wdf (gj 1 (fun i => r0 ((fun _ => xy) i) ((fun _ => 2) i)) 2).R (lf [0]) 1 1 j = 1 := by decide
  generalize gj 1 (fun i => r0 ((fun _ => xy) i) ((fun _ => 2) i)) 2 = S at *
  have h1 : bsl S 1 = [] := bsl_yes (c := 0) ⟨0, by rw [hL]; decide, by rw [hL]; rfl⟩
  have h2 : bsl S 2 = [wdf S.R (lf S.L) 1 S.L.length] := by
    rw [bsl_no (c := 1), h1]
    · rfl
    · rintro ⟨k, hk, e⟩
      rw [hL] at hk e
      have : k = 0 := by simpa using hk
      subst this
      exact absurd e (by decide)
  rw [h2]
  refine ⟨rfl, fun k hk j hj => ?_⟩
  obtain rfl : k = 0 := by omega
  show wdf S.R (lf S.L) 1 S.L.length j = 1
  rw [hL]
  exact hw j hj
end Go.Proofs.Ytnfhnchomiejcaa
