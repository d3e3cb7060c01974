/- Sums, polynomials and the syndromes of amounts in the field of 256. -/
import Derived.Test.YtpjpkkgcnnmljaaGF
namespace Go.Proofs.Ytpjpkkgcnnmljaa
open Go.RowKit

/-- Sums in the field. -/
def gs (f : Nat → Nat) : Nat → Nat
  | 0 => 0
  | k + 1 => gs f k ^^^ f k

theorem gs_lt {f : Nat → Nat} {n : Nat} (h : ∀ i, i < n → f i < 256) : gs f n < 256 := by
  induction n with
  | zero => show 0 < 256; omega
  | succ n ih => exact xor_lt8 (ih (fun i hi => h i (by omega))) (h n (by omega))

theorem gs_congr {f g : Nat → Nat} {n : Nat} (h : ∀ i, i < n → f i = g i) : gs f n = gs g n := by
  induction n with
  | zero => rfl
  | succ n ih => show gs f n ^^^ f n = gs g n ^^^ g n; rw [ih (fun i hi => h i (by omega)), h n (by omega)]

theorem gs_zero {f : Nat → Nat} {n : Nat} (h : ∀ i, i < n → f i = 0) : gs f n = 0 := by
  induction n with
  | zero => rfl
  | succ n ih => show gs f n ^^^ f n = 0; rw [ih (fun i hi => h i (by omega)), h n (by omega)]; rfl

theorem gs_add (f g : Nat → Nat) (n : Nat) : gs (fun i => f i ^^^ g i) n = gs f n ^^^ gs g n := by
  induction n with
  | zero => show 0 = 0 ^^^ 0; rw [Nat.xor_self]
  | succ n ih => show gs _ n ^^^ (f n ^^^ g n) = (gs f n ^^^ f n) ^^^ (gs g n ^^^ g n); rw [ih, xor_swap]

theorem gs_mul {f : Nat → Nat} {n a : Nat} (ha : a < 256) (h : ∀ i, i < n → f i < 256) : gm a (gs f n) = gs (fun i => gm a (f i)) n := by
  induction n with
  | zero => exact gm_zero_r ha
  | succ n ih =>
    have h1 : ∀ i, i < n → f i < 256 := fun i hi => h i (by omega)
    show gm a (gs f n ^^^ f n) = gs _ n ^^^ gm a (f n)
    rw [gm_add_r ha (gs_lt h1) (h n (by omega)), ih h1]

theorem gs_swap (f : Nat → Nat → Nat) (n m : Nat) : gs (fun i => gs (f i) m) n = gs (fun j => gs (fun i => f i j) n) m := by
  induction n with
  | zero => exact (gs_zero (fun _ _ => rfl)).symm
  | succ n ih =>
    show gs (fun i => gs (f i) m) n ^^^ gs (f n) m = gs (fun j => gs (fun i => f i j) n ^^^ f n j) m
    rw [ih, gs_add]

/-- All but one are 0. -/
theorem gs_one {f : Nat → Nat} {n p : Nat} (hp : p < n) (h : ∀ i, i < n → i ≠ p → f i = 0) : gs f n = f p := by
  induction n with
  | zero => omega
  | succ n ih =>
    show gs f n ^^^ f n = f p
    by_cases e : p = n
    · subst e
      rw [gs_zero (fun i hi => h i (by omega) (by omega)), Nat.zero_xor]
    · rw [ih (by omega) (fun i hi hne => h i (by omega) hne), h n (by omega) (fun e2 => e e2.symm), Nat.xor_zero]

/-- Powers. -/
def gpow (x : Nat) : Nat → Nat
  | 0 => 1
  | k + 1 => gm (gpow x k) x
theorem gpow_lt {x : Nat} (k : Nat) : gpow x k < 256 := by
  induction k with
  | zero => show 1 < 256; omega
  | succ k ih => exact gm_lt ih x
theorem gpow_pw (e k : Nat) : gpow (gpw e) k = gpw (e * k) := by
  induction k with
  | zero => rfl
  | succ k ih => show gm (gpow (gpw e) k) (gpw e) = _; rw [ih, Nat.mul_succ, gpw_add]

/-- The value of a polynomial whose lowest number comes first. -/
def gev (c : Nat → Nat) (n x : Nat) : Nat := gs (fun j => gm (c j) (gpow x j)) n

theorem gev_lt {c : Nat → Nat} {n x : Nat} (h : ∀ j, j < n → c j < 256) : gev c n x < 256 := gs_lt (fun j hj => gm_lt (h j hj) _)

/-- Times x, and a multiple of what it was: the polynomial times (x + a). -/
def gby (c : Nat → Nat) (a : Nat) (j : Nat) : Nat := (if j = 0 then 0 else c (j - 1)) ^^^ gm (c j) a

theorem gs_shift (f : Nat → Nat) (n : Nat) : gs (fun j => if j = 0 then 0 else f (j - 1)) (n + 1) = gs f n := by
  induction n with
  | zero => show 0 ^^^ (if 0 = 0 then 0 else f (0 - 1)) = 0; rw [if_pos rfl, Nat.xor_self]
  | succ n ih =>
    show gs (fun j => if j = 0 then 0 else f (j - 1)) (n + 1) ^^^ (if n + 1 = 0 then 0 else f (n + 1 - 1)) = gs f n ^^^ f n
    rw [ih, if_neg (by omega), Nat.add_sub_cancel]

theorem gby_ev {c : Nat → Nat} {n a x : Nat} (hc : ∀ j, c j < 256) (hz : ∀ j, n ≤ j → c j = 0) (ha : a < 256) (hx : x < 256) : gev (gby c a) (n + 1) x = gm (gev c n x) (x ^^^ a) := by
  unfold gev
  have e1 : gs (fun j => gm (gby c a j) (gpow x j)) (n + 1) = gs (fun j => (if j = 0 then 0 else gm (gm (c (j - 1)) (gpow x (j - 1))) x) ^^^ gm (gm (c j) (gpow x j)) a) (n + 1) := gs_congr fun j hj => by
    unfold gby
    rw [gm_add_l _ (by split <;> first | omega | exact hc _) (gm_lt (hc j) a)]
    congr 1
    · by_cases e : j = 0
      · simp only [if_pos e]; exact gm_zero_l _
      · simp only [if_neg e]
        obtain ⟨i, rfl⟩ : ∃ i, j = i + 1 := ⟨j - 1, by omega⟩
        rw [Nat.add_sub_cancel]
        show gm (c i) (gm (gpow x i) x) = _
        rw [gm_assoc (hc i) (gpow_lt i) hx]
    · rw [gm_assoc (hc j) ha (gpow_lt j), gm_assoc (hc j) (gpow_lt j) ha, gm_comm ha (gpow_lt j)]
  rw [e1, gs_add, gs_shift (fun i => gm (gm (c i) (gpow x i)) x) n]
  have hb : ∀ j, j < n → gm (c j) (gpow x j) < 256 := fun j _ => gm_lt (hc j) _
  have hl : gs (fun j => gm (c j) (gpow x j)) n < 256 := gs_lt hb
  rw [gm_add_r hl hx ha]
  congr 1
  · rw [gm_comm hl hx, gs_mul hx hb]
    exact gs_congr fun i _ => gm_comm (gm_lt (hc i) _) hx
  · show gs (fun j => gm (gm (c j) (gpow x j)) a) n ^^^ gm (gm (c n) (gpow x n)) a = _
    rw [hz n (Nat.le_refl _), gm_zero_l, gm_zero_l, Nat.xor_zero, gm_comm hl ha, gs_mul ha hb]
    exact gs_congr fun i _ => gm_comm (gm_lt (hc i) _) ha

/-- The polynomial that is 0 at the first k of these but at place p. -/
def gwo (X : Nat → Nat) (p : Nat) : Nat → Nat → Nat
  | 0 => fun j => if j = 0 then 1 else 0
  | k + 1 => if k = p then gwo X p k else gby (gwo X p k) (X k)
/-- How many factors it has. -/
def gdeg (p : Nat) : Nat → Nat
  | 0 => 0
  | k + 1 => if k = p then gdeg p k else gdeg p k + 1
/-- Their product at x. -/
def gpr (X : Nat → Nat) (p x : Nat) : Nat → Nat
  | 0 => 1
  | k + 1 => if k = p then gpr X p x k else gm (gpr X p x k) (x ^^^ X k)

theorem gdeg_le (p k : Nat) : gdeg p k ≤ k ∧ (p < k → gdeg p k + 1 ≤ k) := by
  induction k with
  | zero => exact ⟨Nat.le_refl _, fun h => by omega⟩
  | succ k ih =>
    unfold gdeg
    split
    · omega
    · omega

theorem gwo_ok {X : Nat → Nat} (_ : ∀ i, X i < 256) (p k : Nat) : (∀ j, gwo X p k j < 256) ∧ (∀ j, gdeg p k + 1 ≤ j → gwo X p k j = 0) := by
  induction k with
  | zero =>
    refine ⟨fun j => ?_, fun j hj => ?_⟩
    · show (if j = 0 then 1 else 0) < 256; split <;> omega
    · show (if j = 0 then 1 else 0) = 0
      rw [if_neg (by have : gdeg p 0 = 0 := rfl; omega)]
  | succ k ih =>
    by_cases e : k = p
    · have e1 : gwo X p (k + 1) = gwo X p k := by show (if k = p then _ else _) = _; rw [if_pos e]
      have e2 : gdeg p (k + 1) = gdeg p k := by show (if k = p then _ else _) = _; rw [if_pos e]
      rw [e1, e2]
      exact ih
    · have e1 : gwo X p (k + 1) = gby (gwo X p k) (X k) := by show (if k = p then _ else _) = _; rw [if_neg e]
      have e2 : gdeg p (k + 1) = gdeg p k + 1 := by show (if k = p then _ else _) = _; rw [if_neg e]
      rw [e1, e2]
      refine ⟨fun j => xor_lt8 (by split <;> first | omega | exact ih.1 _) (gm_lt (ih.1 j) _), fun j hj => ?_⟩
      unfold gby
      rw [if_neg (by omega), ih.2 (j - 1) (by omega), ih.2 j (by omega), gm_zero_l]
      rfl

theorem gpr_lt {X : Nat → Nat} {p x k : Nat} : gpr X p x k < 256 := by
  induction k with
  | zero => show 1 < 256; omega
  | succ k ih =>
    unfold gpr
    split
    · exact ih
    · exact gm_lt ih _

theorem gwo_ev {X : Nat → Nat} (hX : ∀ i, X i < 256) (p k : Nat) {x : Nat} (hx : x < 256) : gev (gwo X p k) (gdeg p k + 1) x = gpr X p x k := by
  induction k with
  | zero =>
    show gs (fun j => gm (gwo X p 0 j) (gpow x j)) 1 = 1
    show 0 ^^^ gm 1 1 = 1
    rw [gm_one_r (by omega)]
    rfl
  | succ k ih =>
    by_cases e : k = p
    · have e1 : gwo X p (k + 1) = gwo X p k := by show (if k = p then _ else _) = _; rw [if_pos e]
      have e2 : gdeg p (k + 1) = gdeg p k := by show (if k = p then _ else _) = _; rw [if_pos e]
      have e3 : gpr X p x (k + 1) = gpr X p x k := by show (if k = p then _ else _) = _; rw [if_pos e]
      rw [e1, e2, e3]
      exact ih
    · have e1 : gwo X p (k + 1) = gby (gwo X p k) (X k) := by show (if k = p then _ else _) = _; rw [if_neg e]
      have e2 : gdeg p (k + 1) = gdeg p k + 1 := by show (if k = p then _ else _) = _; rw [if_neg e]
      have e3 : gpr X p x (k + 1) = gm (gpr X p x k) (x ^^^ X k) := by show (if k = p then _ else _) = _; rw [if_neg e]
      rw [e1, e2, e3, gby_ev (gwo_ok hX p k).1 (gwo_ok hX p k).2 (hX k) hx, ih]

/-- It is 0 at the others. -/
theorem gpr_zero {X : Nat → Nat} {p k i : Nat} (hi : i < k) (hne : i ≠ p) : gpr X p (X i) k = 0 := by
  induction k with
  | zero => omega
  | succ k ih =>
    unfold gpr
    by_cases e : k = p
    · rw [if_pos e]; exact ih (by omega)
    · rw [if_neg e]
      by_cases e2 : i = k
      · subst e2; rw [Nat.xor_self, gm_zero_r gpr_lt]
      · rw [ih (by omega), gm_zero_l]

theorem xor_ne {a b : Nat} (h : a ≠ b) : a ^^^ b ≠ 0 := by
  intro e
  apply h
  have := congrArg (fun z => z ^^^ b) e
  simp only [Nat.xor_assoc, Nat.xor_self, Nat.xor_zero, Nat.zero_xor] at this
  exact this

/-- It is not 0 at its own. -/
theorem gpr_own {X : Nat → Nat} (hX : ∀ i, X i < 256) {p k : Nat} (hinj : ∀ i, i < k → i ≠ p → X i ≠ X p) : gpr X p (X p) k ≠ 0 := by
  induction k with
  | zero => show (1 : Nat) ≠ 0; omega
  | succ k ih =>
    unfold gpr
    by_cases e : k = p
    · rw [if_pos e]; exact ih (fun i hi => hinj i (by omega))
    · rw [if_neg e]
      intro h
      exact xor_ne (fun e2 => hinj k (by omega) e e2.symm) (gm_ne gpr_lt (xor_lt8 (hX p) (hX k)) h (ih (fun i hi => hinj i (by omega))))

/-- The syndrome j of amounts e at m places. -/
def gsy (X e : Nat → Nat) (m j : Nat) : Nat := gs (fun i => gm (e i) (gpow (X i) j)) m

/-- What the polynomial's numbers and the syndromes sum to: the amount at p, times the product. -/
theorem amount {X e : Nat → Nat} (hX : ∀ i, X i < 256) (he : ∀ i, e i < 256) {m p : Nat} (hp : p < m) :
    gs (fun j => gm (gwo X p m j) (gsy X e m j)) (gdeg p m + 1) = gm (e p) (gpr X p (X p) m) := by
  have h1 : ∀ j, gm (gwo X p m j) (gsy X e m j) = gs (fun i => gm (e i) (gm (gwo X p m j) (gpow (X i) j))) m := fun j => by
    unfold gsy
    rw [gs_mul ((gwo_ok hX p m).1 j) (fun i _ => gm_lt (he i) _)]
    refine gs_congr fun i _ => ?_
    have hw := (gwo_ok hX p m).1 j
    rw [← gm_assoc hw (he i) (gpow_lt j), gm_comm hw (he i), gm_assoc (he i) hw (gpow_lt j)]
  rw [gs_congr (fun j _ => h1 j), ← gs_swap (fun i j => gm (e i) (gm (gwo X p m j) (gpow (X i) j)))]
  have h2 : ∀ i, gs (fun j => gm (e i) (gm (gwo X p m j) (gpow (X i) j))) (gdeg p m + 1) = gm (e i) (gpr X p (X i) m) := fun i => by
    rw [← gs_mul (he i) (fun j _ => gm_lt ((gwo_ok hX p m).1 j) _), ← gwo_ev hX p m (hX i)]
    rfl
  rw [gs_congr (fun i _ => h2 i)]
  exact gs_one hp (fun i hi hne => by rw [gpr_zero hi hne, gm_zero_r (he i)])

/-- Amounts at m different places whose first m syndromes are 0 are 0. -/
theorem vand {X e : Nat → Nat} (hX : ∀ i, X i < 256) (he : ∀ i, e i < 256) {m : Nat} (hinj : ∀ i p, i < m → p < m → i ≠ p → X i ≠ X p) (hS : ∀ j, j < m → gsy X e m j = 0) : ∀ p, p < m → e p = 0 := by
  intro p hp
  have h := amount hX he hp
  rw [gs_zero (fun j hj => by rw [hS j (by have := (gdeg_le p m).2 hp; omega), gm_zero_r ((gwo_ok hX p m).1 j)])] at h
  refine Classical.byContradiction fun hne => gpr_own hX (fun i hi hip => hinj i p hi hp hip) (gm_ne (he p) gpr_lt h.symm hne)
end Go.Proofs.Ytpjpkkgcnnmljaa
