/- Rules by which signs follow from those ahead: how short one may be. -/
import Derived.Test.YtpjpkkgcnnmljaaGW
namespace Go.Proofs.Ytpjpkkgcnnmljaa
open Go.RowKit

/-- By how much a rule of length L misses the sign k. -/
def mis (c S : Nat → Nat) (L k : Nat) : Nat := gs (fun i => gm (c i) (S (k - i))) (L + 1)

/-- A rule that holds up to N and misses the sign N: every rule that holds there too is at least N + 1 - L long. -/
theorem massey {c c' S : Nat → Nat} {L L' N : Nat} (hc : ∀ i, c i < 256) (hc' : ∀ i, c' i < 256) (hS : ∀ k, S k < 256) (h0 : c' 0 = 1)
    (f1 : ∀ k, L ≤ k → k < N → mis c S L k = 0) (f2 : mis c S L N ≠ 0) (f3 : ∀ k, L' ≤ k → k ≤ N → mis c' S L' k = 0) : N + 1 ≤ L + L' := by
  refine Classical.byContradiction fun hn => ?_
  have hm : ∀ i j, gm (c i) (gm (c' j) (S (N - i - j))) = gm (c' j) (gm (c i) (S (N - j - i))) := fun i j => by
    rw [← gm_assoc (hc i) (hc' j) (hS _), gm_comm (hc i) (hc' j), gm_assoc (hc' j) (hc i) (hS _), Nat.sub_right_comm]
  have t1 : gs (fun i => gs (fun j => gm (c i) (gm (c' j) (S (N - i - j)))) (L' + 1)) (L + 1) = 0 := by
    refine gs_zero fun i hi => ?_
    rw [← gs_mul (hc i) (fun j _ => gm_lt (hc' j) _)]
    have := f3 (N - i) (by omega) (by omega)
    unfold mis at this
    rw [this, gm_zero_r (hc i)]
  rw [gs_swap] at t1
  have t2 : ∀ j, gs (fun i => gm (c i) (gm (c' j) (S (N - i - j)))) (L + 1) = gm (c' j) (mis c S L (N - j)) := fun j => by
    unfold mis
    rw [gs_mul (hc' j) (fun i _ => gm_lt (hc i) _)]
    exact gs_congr fun i _ => hm i j
  rw [gs_congr (fun j _ => t2 j), gs_one (p := 0) (by omega) (fun j hj hne => by rw [f1 (N - j) (by omega) (by omega), gm_zero_r (hc' j)]), h0] at t1
  exact f2 ((gm_one_l (gs_lt fun i _ => gm_lt (hc i) _)).symm.trans t1)

theorem gpow_add {x : Nat} (hx : x < 256) (i j : Nat) : gpow x (i + j) = gm (gpow x i) (gpow x j) := by
  induction j with
  | zero => exact (gm_one_r (gpow_lt i)).symm
  | succ j ih =>
    show gm (gpow x (i + j)) x = gm (gpow x i) (gm (gpow x j) x)
    rw [ih, gm_assoc (gpow_lt i) (gpow_lt j) hx]

/-- Four numbers in another order. -/
theorem gm_four {q e c p : Nat} (hq : q < 256) (he : e < 256) (hc : c < 256) (hp : p < 256) : gm q (gm e (gm c p)) = gm c (gm e (gm q p)) := by
  rw [← gm_assoc he hc hp, gm_comm he hc, gm_assoc hc he hp, ← gm_assoc hq hc (gm_lt he _), gm_comm hq hc, gm_assoc hc hq (gm_lt he _), ← gm_assoc hq he hp, gm_comm hq he, gm_assoc he hq hp]

/-- A rule that holds for the signs of m amounts that are not nought, at different places, is nought at each of them (read from its end), if it is short enough. -/
theorem rule_zero {X e c : Nat → Nat} {m L t : Nat} (hX : ∀ i, X i < 256) (he : ∀ i, e i < 256) (hc : ∀ i, c i < 256) (hinj : ∀ i p, i < m → p < m → i ≠ p → X i ≠ X p) (hL : L + m ≤ t)
    (hf : ∀ k, L ≤ k → k < t → mis c (gsy X e m) L k = 0) : ∀ i, i < m → gm (e i) (gs (fun j => gm (c j) (gpow (X i) (L - j))) (L + 1)) = 0 := by
  have hr : ∀ i, gs (fun j => gm (c j) (gpow (X i) (L - j))) (L + 1) < 256 := fun i => gs_lt fun j _ => gm_lt (hc j) _
  refine vand (X := X) (e := fun i => gm (e i) (gs (fun j => gm (c j) (gpow (X i) (L - j))) (L + 1))) hX (fun i => gm_lt (he i) _) hinj (fun q hq => ?_)
  have h := hf (L + q) (by omega) (by omega)
  rw [← h]
  unfold mis gsy
  have s1 : ∀ j, j < L + 1 → gm (c j) (gs (fun i => gm (e i) (gpow (X i) (L + q - j))) m) = gs (fun i => gm (c j) (gm (e i) (gpow (X i) (L + q - j)))) m := fun j _ => gs_mul (hc j) (fun i _ => gm_lt (he i) _)
  rw [gs_congr s1, gs_swap]
  refine gs_congr fun i _ => ?_
  rw [gm_comm (gm_lt (he i) _) (gpow_lt q), gs_mul (he i) (fun j _ => gm_lt (hc j) _), gs_mul (gpow_lt q) (fun j _ => gm_lt (he i) _)]
  refine gs_congr fun j hj => ?_
  have e1 : L + q - j = q + (L - j) := by omega
  rw [e1, gpow_add (hX i)]
  exact gm_four (gpow_lt q) (he i) (hc j) (gpow_lt _)

end Go.Proofs.Ytpjpkkgcnnmljaa
