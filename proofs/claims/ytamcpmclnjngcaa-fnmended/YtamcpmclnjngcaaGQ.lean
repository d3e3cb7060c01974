/- The shortest rule of the signs of at most t amounts has their places for its zeros. -/
import Derived.Test.YtamcpmclnjngcaaGB
namespace Go.Proofs.Ytamcpmclnjngcaa
open Go.RowKit

/-- The rule of the places X 0 .. X (k - 1). -/
def plr (X : Nat → Nat) : Nat → Nat → Nat
  | 0 => fun i => if i = 0 then 1 else 0
  | k + 1 => fun i => plr X k i ^^^ gm (X k) (mv (plr X k) i)

theorem plr_lt {X : Nat → Nat} (hX : ∀ i, X i < 256) : ∀ k i, plr X k i < 256
  | 0, i => by unfold plr; split <;> omega
  | k + 1, i => xor_lt8 (plr_lt hX k i) (gm_lt (hX k) _)

theorem plr_one {X : Nat → Nat} (hX : ∀ i, X i < 256) : ∀ k, plr X k 0 = 1
  | 0 => rfl
  | k + 1 => by
    show plr X k 0 ^^^ gm (X k) 0 = 1
    rw [gm_zero_r (hX k), Nat.xor_zero]
    exact plr_one hX k

theorem plr_end {X : Nat → Nat} (hX : ∀ i, X i < 256) : ∀ k i, k < i → plr X k i = 0
  | 0, i, h => if_neg (by omega)
  | k + 1, i, h => by
    show plr X k i ^^^ gm (X k) (mv (plr X k) i) = 0
    have e : mv (plr X k) i = 0 := by
      unfold mv
      rw [if_neg (by omega)]
      exact plr_end hX k (i - 1) (by omega)
    rw [plr_end hX k i (by omega), e, gm_zero_r (hX k)]
    rfl

theorem hor_mv (c : Nat → Nat) (x k : Nat) : hor (mv c) x (k + 1) = hor c x k := by
  induction k with
  | zero =>
    show gm 0 x ^^^ c 0 = c 0
    rw [gm_zero_l, Nat.zero_xor]
  | succ k ih =>
    show gm (hor (mv c) x (k + 1)) x ^^^ c (k + 1) = gm (hor c x k) x ^^^ c (k + 1)
    rw [ih]

theorem hor_plus {c b : Nat → Nat} {d x : Nat} (hc : ∀ i, c i < 256) (hb : ∀ i, b i < 256) (hd : d < 256) (hx : x < 256) (k : Nat) : hor (fun i => c i ^^^ gm d (b i)) x k = hor c x k ^^^ gm d (hor b x k) := by
  induction k with
  | zero => rfl
  | succ k ih =>
    show gm (hor (fun i => c i ^^^ gm d (b i)) x k) x ^^^ (c (k + 1) ^^^ gm d (b (k + 1))) = (gm (hor c x k) x ^^^ c (k + 1)) ^^^ gm d (gm (hor b x k) x ^^^ b (k + 1))
    rw [ih, gm_add_l x (hor_lt hc x k) (gm_lt hd _), gm_add_r hd (gm_lt (hor_lt hb x k) x) (hb _), gm_assoc hd (hor_lt hb x k) hx, xor_swap]

theorem plr_step {X : Nat → Nat} (hX : ∀ i, X i < 256) {x : Nat} (hx : x < 256) (k : Nat) : hor (plr X (k + 1)) x (k + 1) = gm (hor (plr X k) x k) (x ^^^ X k) := by
  have h1 : hor (plr X (k + 1)) x (k + 1) = hor (plr X k) x (k + 1) ^^^ gm (X k) (hor (mv (plr X k)) x (k + 1)) := hor_plus (plr_lt hX k) (mv_lt (plr_lt hX k)) (hX k) hx (k + 1)
  have h2 : hor (plr X k) x (k + 1) = gm (hor (plr X k) x k) x := by
    show gm (hor (plr X k) x k) x ^^^ plr X k (k + 1) = _
    rw [plr_end hX k (k + 1) (by omega), Nat.xor_zero]
  have hl := hor_lt (plr_lt hX k) x k
  rw [h1, h2, hor_mv, gm_add_r hl hx (hX k), gm_comm (hX k) hl]

theorem plr_zero {X : Nat → Nat} (hX : ∀ i, X i < 256) : ∀ k i, i < k → hor (plr X k) (X i) k = 0
  | 0, i, h => by omega
  | k + 1, i, h => by
    rw [plr_step hX (hX i)]
    by_cases e : i = k
    · subst e
      rw [Nat.xor_self, gm_zero_r (hor_lt (plr_lt hX i) _ _)]
    · rw [plr_zero hX k i (by omega), gm_zero_l]

/-- By how much a rule misses the signs of amounts. -/
theorem mis_gsy {X e c : Nat → Nat} {m L : Nat} (hX : ∀ i, X i < 256) (he : ∀ i, e i < 256) (hc : ∀ i, c i < 256) (q : Nat) : gsy X (fun i => gm (e i) (hor c (X i) L)) m q = mis c (gsy X e m) L (L + q) := by
  unfold mis gsy
  have s1 : ∀ j, j < L + 1 → gm (c j) (gs (fun i => gm (e i) (gpow (X i) (L + q - j))) m) = gs (fun i => gm (c j) (gm (e i) (gpow (X i) (L + q - j)))) m := fun j _ => gs_mul (hc j) (fun i _ => gm_lt (he i) _)
  rw [gs_congr s1, gs_swap]
  refine gs_congr fun i _ => ?_
  show gm (gm (e i) (hor c (X i) L)) (gpow (X i) q) = _
  rw [← hor_gs hc (hX i), gm_comm (gm_lt (he i) _) (gpow_lt q), gs_mul (he i) (fun j _ => gm_lt (hc j) _), gs_mul (gpow_lt q) (fun j _ => gm_lt (he i) _)]
  refine gs_congr fun j hj => ?_
  have e1 : L + q - j = q + (L - j) := by omega
  rw [e1, gpow_add (hX i)]
  exact gm_four (gpow_lt q) (he i) (hc j) (gpow_lt _)

/-- The shortest rule of the first 2 * t signs of m amounts, m at most t: it is m long, and its zeros are the places. -/
theorem bm_told {X e c b : Nat → Nat} {L m t : Nat} (hX : ∀ i, X i < 256) (he : ∀ i, e i < 256) (he0 : ∀ i, i < m → e i ≠ 0) (hinj : ∀ i p, i < m → p < m → i ≠ p → X i ≠ X p) (hm : m ≤ t) (h : Bm (gsy X e m) c b L (2 * t)) :
    L = m ∧ ∀ x, x < 256 → (hor c x L = 0 ↔ ∃ i, i < m ∧ X i = x) := by
  have h1 : L ≤ m := h.mn (plr X m) m (plr_one hX m) (plr_lt hX m) (fun k hk _ => by
    obtain ⟨q, rfl⟩ : ∃ q, k = m + q := ⟨k - m, by omega⟩
    rw [← mis_gsy hX he (plr_lt hX m)]
    exact gs_zero fun i hi => by show gm (gm (e i) (hor (plr X m) (X i) m)) (gpow (X i) q) = 0; rw [plr_zero hX m i hi, gm_zero_r (he i), gm_zero_l])
  obtain ⟨r1, r2, r3⟩ := rule_told (L := L) hX he he0 h.cl (by rw [h.c0]; omega) hinj (t := 2 * t) (by omega) (fun k hk hkN => by rw [← cv_mis h.cd hk]; exact h.ft k hk hkN)
  have hLm : L = m := by omega
  refine ⟨hLm, fun x hx => ⟨fun hz => r3 hLm x hx hz, ?_⟩⟩
  rintro ⟨i, hi, rfl⟩
  exact r1 i hi

end Go.Proofs.Ytamcpmclnjngcaa
