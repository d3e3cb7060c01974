/- A polynomial, its highest number first: its value step by step, and how many zeros it may have. -/
import Derived.Test.YtpjpkkgcnnmljaaGM
namespace Go.Proofs.Ytpjpkkgcnnmljaa
open Go.RowKit

/-- The value, step by step. -/
def hor (c : Nat → Nat) (x : Nat) : Nat → Nat
  | 0 => c 0
  | k + 1 => gm (hor c x k) x ^^^ c (k + 1)

theorem hor_lt {c : Nat → Nat} (hc : ∀ i, c i < 256) (x : Nat) : ∀ k, hor c x k < 256
  | 0 => hc 0
  | k + 1 => xor_lt8 (gm_lt (hor_lt hc x k) x) (hc _)

/-- The same as a sum. -/
theorem hor_gs {c : Nat → Nat} (hc : ∀ i, c i < 256) {x : Nat} (hx : x < 256) (L : Nat) : gs (fun j => gm (c j) (gpow x (L - j))) (L + 1) = hor c x L := by
  induction L with
  | zero =>
    show 0 ^^^ gm (c 0) (gpow x 0) = c 0
    rw [Nat.zero_xor]
    exact gm_one_r (hc 0)
  | succ L ih =>
    show gs (fun j => gm (c j) (gpow x (L + 1 - j))) (L + 1) ^^^ gm (c (L + 1)) (gpow x (L + 1 - (L + 1))) = gm (hor c x L) x ^^^ c (L + 1)
    rw [← ih, Nat.sub_self]
    congr 1
    · rw [gm_comm (gs_lt fun j _ => gm_lt (hc j) _) hx, gs_mul hx (fun j _ => gm_lt (hc j) _)]
      refine gs_congr fun j hj => ?_
      have e : L + 1 - j = (L - j) + 1 := by omega
      rw [e]
      show gm (c j) (gm (gpow x (L - j)) x) = gm x (gm (c j) (gpow x (L - j)))
      rw [gm_comm hx (gm_lt (hc j) _), gm_assoc (hc j) (gpow_lt _) hx]
    · exact gm_one_r (hc _)

theorem xor_can (a b c : Nat) : (a ^^^ b) ^^^ (b ^^^ c) = a ^^^ c := by
  rw [Nat.xor_assoc, ← Nat.xor_assoc b b c, Nat.xor_self, Nat.zero_xor]

/-- Divided by x + a: the numbers of the quotient are the steps at a. -/
theorem hor_div {c : Nat → Nat} (hc : ∀ i, c i < 256) {x a : Nat} (hx : x < 256) (ha : a < 256) (k : Nat) : hor c x (k + 1) = gm (x ^^^ a) (hor (hor c a) x k) ^^^ hor c a (k + 1) := by
  have hb : ∀ i, hor c a i < 256 := hor_lt hc a
  induction k with
  | zero =>
    show gm (c 0) x ^^^ c 1 = gm (x ^^^ a) (c 0) ^^^ (gm (c 0) a ^^^ c 1)
    rw [gm_add_l (c 0) hx ha, gm_comm ha (hc 0), xor_can, gm_comm hx (hc 0)]
  | succ k ih =>
    have hB : hor (hor c a) x k < 256 := hor_lt hb x k
    show gm (hor c x (k + 1)) x ^^^ c (k + 2) = gm (x ^^^ a) (gm (hor (hor c a) x k) x ^^^ hor c a (k + 1)) ^^^ (gm (hor c a (k + 1)) a ^^^ c (k + 2))
    rw [ih]
    generalize hor (hor c a) x k = B at *
    have hb1 := hb (k + 1)
    generalize hor c a (k + 1) = b at *
    have hxa := xor_lt8 hx ha
    rw [gm_add_l x (gm_lt hxa B) hb1, gm_add_r hxa (gm_lt hB x) hb1, gm_add_l b hx ha, gm_assoc hxa hB hx, gm_comm hb1 hx, gm_comm ha hb1]
    generalize gm (x ^^^ a) (gm B x) = p
    generalize gm x b = q
    generalize gm b a = r
    rw [← Nat.xor_assoc p q r, xor_can, Nat.xor_assoc]

/-- At most as many zeros as its degree. -/
theorem zeros_le : ∀ (L : Nat) (c X : Nat → Nat) (m : Nat), (∀ i, c i < 256) → c 0 ≠ 0 → (∀ i, X i < 256) → (∀ i p, i < m → p < m → i ≠ p → X i ≠ X p) → (∀ i, i < m → hor c (X i) L = 0) → m ≤ L := by
  intro L
  induction L with
  | zero =>
    intro c X m _ h0 _ _ hz
    cases m with
    | zero => exact Nat.le_refl _
    | succ m => exact absurd (hz 0 (by omega)) h0
  | succ L ih =>
    intro c X m hc h0 hX hinj hz
    cases m with
    | zero => omega
    | succ m =>
      have hza := hz m (by omega)
      have := ih (hor c (X m)) X m (hor_lt hc _) h0 hX (fun i p hi hp hne => hinj i p (by omega) (by omega) hne) (fun i hi => by
        have h := hz i (by omega)
        rw [hor_div hc (hX i) (hX m), hza, Nat.xor_zero] at h
        exact gm_ne (xor_lt8 (hX i) (hX m)) (hor_lt (hor_lt hc _) _ _) h (xor_ne (hinj i m (by omega) (by omega) (by omega))))
      omega

/-- A rule that holds for the signs of m amounts none of which is nought, at different places: each place is a zero of it; it is at least m long; and if it is m long, it has no other zero. -/
theorem rule_told {X e c : Nat → Nat} {m L t : Nat} (hX : ∀ i, X i < 256) (he : ∀ i, e i < 256) (he0 : ∀ i, i < m → e i ≠ 0) (hc : ∀ i, c i < 256) (h0 : c 0 ≠ 0) (hinj : ∀ i p, i < m → p < m → i ≠ p → X i ≠ X p) (hL : L + m ≤ t)
    (hf : ∀ k, L ≤ k → k < t → mis c (gsy X e m) L k = 0) : (∀ i, i < m → hor c (X i) L = 0) ∧ m ≤ L ∧ (L = m → ∀ x, x < 256 → hor c x L = 0 → ∃ i, i < m ∧ X i = x) := by
  have hz : ∀ i, i < m → hor c (X i) L = 0 := fun i hi => by
    have h := rule_zero hX he hc hinj hL hf i hi
    rw [hor_gs hc (hX i)] at h
    exact gm_ne (he i) (hor_lt hc _ _) h (he0 i hi)
  refine ⟨hz, zeros_le L c X m hc h0 hX hinj hz, fun hLm x hx hx0 => ?_⟩
  refine Classical.byContradiction fun hno => ?_
  have hno' : ∀ i, i < m → X i ≠ x := fun i hi e => hno ⟨i, hi, e⟩
  have := zeros_le L c (fun i => if i = m then x else X i) (m + 1) hc h0 (fun i => by split; exact hx; exact hX i) (fun i p hi hp hne => by
    by_cases e1 : i = m
    · have e2 : p ≠ m := by omega
      simp only [e1, e2, if_true, if_false]
      exact fun e => hno' p (by omega) e.symm
    · by_cases e2 : p = m
      · simp only [e1, e2, if_true, if_false]
        exact hno' i (by omega)
      · simp only [e1, e2, if_false]
        exact hinj i p (by omega) (by omega) hne) (fun i hi => by
    by_cases e1 : i = m
    · simp only [e1, if_true]; exact hx0
    · simp only [e1, if_false]; exact hz i (by omega))
  omega

end Go.Proofs.Ytpjpkkgcnnmljaa
