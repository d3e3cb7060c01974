/- Elimination over bits, in plain numbers. -/
import Derived.Test.YtnfhnchomiejcaaX0
namespace Go.Proofs.Ytnfhnchomiejcaa
open Go.RowKit

/-- The first place from a on that is not nought, among s. -/
def fp (f : Nat → Int) : Nat → Nat → Nat
  | 0, a => a
  | s + 1, a => if f a = 0 then fp f s (a + 1) else a

theorem fp_eq {f : Nat → Int} : ∀ {s a p : Nat}, a ≤ p → p ≤ a + s → (∀ j, a ≤ j → j < p → f j = 0) → (p = a + s ∨ f p ≠ 0) → fp f s a = p
  | 0, a, p, h1, h2, _, _ => by unfold fp; omega
  | s + 1, a, p, h1, h2, h3, h4 => by
    unfold fp
    by_cases h : f a = 0
    · rw [if_pos h]
      have hne : a ≠ p := by
        rintro rfl
        rcases h4 with h4 | h4
        · omega
        · exact h4 h
      exact fp_eq (by omega) (by omega) (fun j hj hp => h3 j (by omega) hp) (by
        rcases h4 with h4 | h4
        · left; omega
        · right; exact h4)
    · rw [if_neg h]
      by_cases e : a = p
      · exact e
      · exact absurd (h3 a (Nat.le_refl _) (by omega)) h

theorem fp_ge {f : Nat → Int} : ∀ (s a : Nat), a ≤ fp f s a
  | 0, a => by unfold fp; omega
  | s + 1, a => by
    unfold fp
    split
    · have := fp_ge (f := f) s (a + 1)
      omega
    · omega

theorem fp_nul {f : Nat → Int} : ∀ (s a j : Nat), a ≤ j → j < fp f s a → f j = 0
  | 0, a, j, h1, h2 => by unfold fp at h2; omega
  | s + 1, a, j, h1, h2 => by
    unfold fp at h2
    by_cases h : f a = 0
    · rw [if_pos h] at h2
      by_cases e : a = j
      · subst e; exact h
      · exact fp_nul s (a + 1) j (by omega) h2
    · rw [if_neg h] at h2
      omega

theorem fp_one {f : Nat → Int} : ∀ (s a : Nat), fp f s a < a + s → f (fp f s a) ≠ 0
  | 0, a, h => by unfold fp at h; omega
  | s + 1, a, h => by
    unfold fp at h ⊢
    by_cases e : f a = 0
    · rw [if_pos e] at h ⊢
      exact fp_one s (a + 1) (by omega)
    · rw [if_neg e]
      exact e

/-- A list as a function. -/
def lf (l : List Int) (i : Nat) : Int := l.getD i 0

theorem lf_old {l : List Int} {x : Int} {i : Nat} (h : i < l.length) : lf (l ++ [x]) i = lf l i := by
  unfold lf
  rw [List.getD_eq_getElem?_getD, List.getD_eq_getElem?_getD, List.getElem?_append_left h]

theorem lf_new (l : List Int) (x : Int) : lf (l ++ [x]) l.length = x := by
  unfold lf
  rw [List.getD_eq_getElem?_getD, List.getElem?_append_right (Nat.le_refl _), Nat.sub_self]
  rfl

/-- Rows, and the columns that lead. -/
structure Gj where
  R : Nat → Nat → Int
  L : List Int

def swp (R : Nat → Nat → Int) (a p : Nat) : Nat → Nat → Int := fun i => if i = a then R p else if i = p then R a else R i
def clr (R : Nat → Nat → Int) (a c : Nat) : Nat → Nat → Int := fun i k => if i ≠ a ∧ R i c = 1 then xb (R i k) (R a k) else R i k
def pv (M c : Nat) (S : Gj) : Nat := fp (fun i => S.R i c) (M - S.L.length) S.L.length
def stp (M c : Nat) (S : Gj) : Gj := if pv M c S < M then ⟨clr (swp S.R S.L.length (pv M c S)) S.L.length c, S.L ++ [(c : Int)]⟩ else S
def gj (M : Nat) (R0 : Nat → Nat → Int) : Nat → Gj
  | 0 => ⟨R0, []⟩
  | c + 1 => stp M c (gj M R0 c)

theorem stp_yes {M c : Nat} {S : Gj} (h : pv M c S < M) : stp M c S = ⟨clr (swp S.R S.L.length (pv M c S)) S.L.length c, S.L ++ [(c : Int)]⟩ := by unfold stp; rw [if_pos h]
theorem stp_no {M c : Nat} {S : Gj} (h : ¬ pv M c S < M) : stp M c S = S := by unfold stp; rw [if_neg h]

/-- What is so of rows and leading columns behind c columns. -/
structure Gi (M n c : Nat) (S : Gj) : Prop where
  len : S.L.length ≤ M
  lec : S.L.length ≤ c
  bit : ∀ i k, i < M → k < n → Bit (S.R i k)
  lead : ∀ i, i < S.L.length → 0 ≤ lf S.L i ∧ lf S.L i < (c : Int)
  asc : ∀ i j, i < j → j < S.L.length → lf S.L i < lf S.L j
  one : ∀ i j, i < M → j < S.L.length → S.R i (lf S.L j).toNat = if i = j then 1 else 0
  nul : ∀ i k, S.L.length ≤ i → i < M → k < c → S.R i k = 0

theorem swp_bit {M n a p : Nat} {R : Nat → Nat → Int} (ha : a < M) (hp : p < M) (h : ∀ i k, i < M → k < n → Bit (R i k)) : ∀ i k, i < M → k < n → Bit (swp R a p i k) := by
  intro i k hi hk
  unfold swp
  split
  · exact h p k hp hk
  · split
    · exact h a k ha hk
    · exact h i k hi hk

theorem clr_bit {M n a c : Nat} {R : Nat → Nat → Int} (h : ∀ i k, i < M → k < n → Bit (R i k)) : ∀ i k, i < M → k < n → Bit (clr R a c i k) := by
  intro i k hi hk
  unfold clr
  split
  · exact xb_bit _ _
  · exact h i k hi hk

theorem gi_start {M n : Nat} {R0 : Nat → Nat → Int} (h : ∀ i k, i < M → k < n → Bit (R0 i k)) : Gi M n 0 ⟨R0, []⟩ :=
  ⟨Nat.zero_le _, Nat.zero_le _, h, fun _ hi => absurd hi (Nat.not_lt_zero _), fun _ _ _ hj => absurd hj (Nat.not_lt_zero _), fun _ _ _ hj => absurd hj (Nat.not_lt_zero _), fun _ _ _ _ hk => absurd hk (Nat.not_lt_zero _)⟩

theorem gi_step {M n c : Nat} {S : Gj} (h : Gi M n c S) (hc : c < n) : Gi M n (c + 1) (stp M c S) := by
  have hl := h.len
  by_cases hp : pv M c S < M
  · rw [stp_yes hp]
    have hge : S.L.length ≤ pv M c S := fp_ge _ _
    generalize hpe : pv M c S = p at *
    have hne : S.R p c ≠ 0 := by
      have := fp_one (f := fun i => S.R i c) (M - S.L.length) S.L.length (by show pv M c S < _; omega)
      have e : fp (fun i => S.R i c) (M - S.L.length) S.L.length = p := hpe
      rw [e] at this
      exact this
    have h1 : S.R p c = 1 := by
      rcases h.bit p c hp hc with e | e
      · exact absurd e hne
      · exact e
    have ha : S.L.length < M := by omega
    have sb := swp_bit ha hp h.bit
    have old : ∀ i k, i < M → k < c → clr (swp S.R S.L.length p) S.L.length c i k = swp S.R S.L.length p i k := by
      intro i k hi hk
      unfold clr
      split
      · have e : swp S.R S.L.length p S.L.length k = 0 := by
          unfold swp
          rw [if_pos rfl]
          exact h.nul p k hge hp hk
        rw [e]
        exact xb_zero (sb i k hi (by omega))
      · rfl
    have swl : ∀ i j, i < M → j < S.L.length → swp S.R S.L.length p i (lf S.L j).toNat = if i = j then 1 else 0 := by
      intro i j hi hj
      unfold swp
      by_cases e1 : i = S.L.length
      · rw [if_pos e1, h.one p j hp hj, if_neg (by omega), if_neg (by omega)]
      · rw [if_neg e1]
        by_cases e2 : i = p
        · rw [if_pos e2, h.one S.L.length j ha hj, if_neg (by omega), if_neg (by omega)]
        · rw [if_neg e2, h.one i j hi hj]
    have cc : ∀ i, i < M → clr (swp S.R S.L.length p) S.L.length c i c = if i = S.L.length then 1 else 0 := by
      intro i hi
      have e0 : swp S.R S.L.length p S.L.length c = 1 := by unfold swp; rw [if_pos rfl]; exact h1
      unfold clr
      by_cases e1 : i = S.L.length
      · subst e1
        rw [if_neg (fun q => q.1 rfl), e0, if_pos rfl]
      · rw [if_neg e1]
        by_cases e2 : swp S.R S.L.length p i c = 1
        · rw [if_pos ⟨e1, e2⟩, e2, e0]; rfl
        · rw [if_neg (fun q => e2 q.2)]
          rcases sb i c hi hc with e | e
          · exact e
          · exact absurd e e2
    refine ⟨by rw [List.length_append, List.length_singleton]; omega, by rw [List.length_append, List.length_singleton]; have := h.lec; omega, clr_bit sb, fun i hi => ?_, fun i j hij hj => ?_, fun i j hi hj => ?_, fun i k hi hM hk => ?_⟩
    · rw [List.length_append, List.length_singleton] at hi
      by_cases e : i = S.L.length
      · subst e; rw [lf_new]; omega
      · rw [lf_old (by omega)]
        have := h.lead i (by omega)
        omega
    · rw [List.length_append, List.length_singleton] at hj
      rw [lf_old (by omega)]
      by_cases e : j = S.L.length
      · subst e; rw [lf_new]; exact (h.lead i (by omega)).2
      · rw [lf_old (by omega)]; exact h.asc i j hij (by omega)
    · rw [List.length_append, List.length_singleton] at hj
      by_cases e : j = S.L.length
      · subst e
        rw [lf_new]
        exact cc i hi
      · rw [lf_old (by omega)]
        have hb := h.lead j (by omega)
        show clr (swp S.R S.L.length p) S.L.length c i (lf S.L j).toNat = _
        rw [old i _ hi (by omega)]
        exact swl i j hi (by omega)
    · rw [List.length_append, List.length_singleton] at hi
      show clr (swp S.R S.L.length p) S.L.length c i k = 0
      by_cases e : k = c
      · subst e
        rw [cc i hM, if_neg (by omega)]
      · rw [old i k hM (by omega)]
        unfold swp
        rw [if_neg (by omega)]
        by_cases e2 : i = p
        · rw [if_pos e2]; exact h.nul _ k (Nat.le_refl _) ha (by omega)
        · rw [if_neg e2]; exact h.nul i k (by omega) hM (by omega)
  · rw [stp_no hp]
    have hnul : ∀ i, S.L.length ≤ i → i < M → S.R i c = 0 := fun i h1 h2 => fp_nul (f := fun i => S.R i c) (M - S.L.length) S.L.length i h1 (by show i < pv M c S; omega)
    refine ⟨h.len, by have := h.lec; omega, h.bit, fun i hi => ?_, h.asc, h.one, fun i k hi hM hk => ?_⟩
    · have := h.lead i hi
      omega
    · by_cases e : k = c
      · subst e; exact hnul i hi hM
      · exact h.nul i k hi hM (by omega)

theorem gi_all {M n : Nat} {R0 : Nat → Nat → Int} (h : ∀ i k, i < M → k < n → Bit (R0 i k)) : ∀ c, c ≤ n → Gi M n c (gj M R0 c)
  | 0, _ => gi_start h
  | c + 1, hc => gi_step (gi_all h c (by omega)) (by omega)

/-- And of two bits. -/
def an (a b : Int) : Int := if a = 1 ∧ b = 1 then 1 else 0

theorem an_bit (a b : Int) : Bit (an a b) := by
  unfold an
  split
  · exact .inr rfl
  · exact .inl rfl

theorem an_xb {a b c : Int} (ha : Bit a) (hb : Bit b) (hc : Bit c) : an (xb a b) c = xb (an a c) (an b c) := by
  rcases ha with rfl | rfl <;> rcases hb with rfl | rfl <;> rcases hc with rfl | rfl <;> rfl

theorem an_comm (a b : Int) : an a b = an b a := by
  unfold an
  by_cases h : a = 1 ∧ b = 1
  · rw [if_pos h, if_pos ⟨h.2, h.1⟩]
  · rw [if_neg h, if_neg (fun q => h ⟨q.2, q.1⟩)]

/-- The sum of products of bits. -/
def dt (f w : Nat → Int) : Nat → Int
  | 0 => 0
  | k + 1 => xb (dt f w k) (an (f k) (w k))

theorem dt_bit (f w : Nat → Int) (n : Nat) : Bit (dt f w n) := by
  cases n with
  | zero => exact .inl rfl
  | succ n => exact xb_bit _ _

theorem dt_comm (f w : Nat → Int) (n : Nat) : dt f w n = dt w f n := by
  induction n with
  | zero => rfl
  | succ n ih => rw [dt, dt, ih, an_comm]

theorem dt_congr {f g w v : Nat → Int} {n : Nat} (h : ∀ k, k < n → f k = g k) (h2 : ∀ k, k < n → w k = v k) : dt f w n = dt g v n := by
  induction n with
  | zero => rfl
  | succ n ih => rw [dt, dt, ih (fun k hk => h k (by omega)) (fun k hk => h2 k (by omega)), h n (by omega), h2 n (by omega)]

theorem xb4 {a b c d : Int} (ha : Bit a) (hb : Bit b) (hc : Bit c) (hd : Bit d) : xb (xb a b) (xb c d) = xb (xb a c) (xb b d) := by
  rcases ha with rfl | rfl <;> rcases hb with rfl | rfl <;> rcases hc with rfl | rfl <;> rcases hd with rfl | rfl <;> rfl

theorem dt_xb {f g w : Nat → Int} {n : Nat} (hf : ∀ k, k < n → Bit (f k)) (hg : ∀ k, k < n → Bit (g k)) (hw : ∀ k, k < n → Bit (w k)) : dt (fun k => xb (f k) (g k)) w n = xb (dt f w n) (dt g w n) := by
  induction n with
  | zero => rfl
  | succ n ih =>
    rw [dt, dt, dt, ih (fun k hk => hf k (by omega)) (fun k hk => hg k (by omega)) (fun k hk => hw k (by omega)), an_xb (hf n (by omega)) (hg n (by omega)) (hw n (by omega))]
    exact xb4 (dt_bit _ _ _) (dt_bit _ _ _) (an_bit _ _) (an_bit _ _)

theorem dt_nul {f w : Nat → Int} {n : Nat} (h : ∀ k, k < n → f k = 0) : dt f w n = 0 := by
  induction n with
  | zero => rfl
  | succ n ih =>
    rw [dt, ih (fun k hk => h k (by omega)), h n (by omega)]
    unfold an
    rw [if_neg (fun q => by have := q.1; omega)]
    rfl

/-- One number more. -/
theorem dt_put {f w : Nat → Int} {n q : Nat} {b : Int} (hq : q < n) (h0 : w q = 0) (_ : Bit b) : dt f (fun p => if p = q then b else w p) n = xb (dt f w n) (an (f q) b) := by
  induction n with
  | zero => omega
  | succ n ih =>
    rw [dt, dt]
    by_cases e : n = q
    · subst e
      rw [if_pos rfl, h0]
      have e1 : dt f (fun p => if p = n then b else w p) n = dt f w n := dt_congr (fun _ _ => rfl) (fun k hk => if_neg (by omega))
      have e2 : an (f n) 0 = 0 := by unfold an; rw [if_neg (fun q => by have := q.2; omega)]
      rw [e1, e2, xb_zero (dt_bit _ _ _)]
    · rw [if_neg e, ih (by omega)]
      rw [xb_assoc (dt_bit _ _ _) (an_bit _ _) (an_bit _ _), xb_assoc (dt_bit _ _ _) (an_bit _ _) (an_bit _ _), xb_comm (an (f q) b)]

/-- What is orthogonal to all rows behind a step was so ahead of it. -/
theorem orth_step {M n c : Nat} {S : Gj} {w : Nat → Int} (h : Gi M n c S) (hw : ∀ k, k < n → Bit (w k)) (ho : ∀ i, i < M → dt ((stp M c S).R i) w n = 0) : ∀ i, i < M → dt (S.R i) w n = 0 := by
  have hl := h.len
  by_cases hp : pv M c S < M
  · rw [stp_yes hp] at ho
    have hge : S.L.length ≤ pv M c S := fp_ge _ _
    generalize pv M c S = p at *
    have ha : S.L.length < M := by omega
    have sb := swp_bit ha hp h.bit
    have hs : ∀ i, i < M → dt (swp S.R S.L.length p i) w n = 0 := by
      have h0 : dt (swp S.R S.L.length p S.L.length) w n = 0 := by
        rw [← ho S.L.length ha]
        refine dt_congr (fun k hk => ?_) (fun _ _ => rfl)
        show _ = clr _ _ _ _ _
        unfold clr
        rw [if_neg (fun q => q.1 rfl)]
      intro i hi
      have h1 := ho i hi
      by_cases e : i ≠ S.L.length ∧ swp S.R S.L.length p i c = 1
      · have e2 : dt (clr (swp S.R S.L.length p) S.L.length c i) w n = xb (dt (swp S.R S.L.length p i) w n) (dt (swp S.R S.L.length p S.L.length) w n) := by
          rw [← dt_xb (fun k hk => sb i k hi hk) (fun k hk => sb _ k ha hk) hw]
          refine dt_congr (fun k hk => ?_) (fun _ _ => rfl)
          unfold clr
          rw [if_pos e]
        rw [show (Gj.mk (clr (swp S.R S.L.length p) S.L.length c) (S.L ++ [(c : Int)])).R i = clr (swp S.R S.L.length p) S.L.length c i from rfl, e2, h0, xb_zero (dt_bit _ _ _)] at h1
        exact h1
      · rw [← h1]
        refine dt_congr (fun k hk => ?_) (fun _ _ => rfl)
        show _ = clr _ _ _ _ _
        unfold clr
        rw [if_neg e]
    intro i hi
    by_cases e1 : i = S.L.length
    · have := hs p hp
      by_cases e2 : p = S.L.length
      · rw [e1]; have h3 := hs S.L.length ha; unfold swp at h3; rw [if_pos rfl, e2] at h3; exact h3
      · unfold swp at this
        rw [if_neg e2, if_pos rfl] at this
        rw [e1]; exact this
    · by_cases e2 : i = p
      · have := hs S.L.length ha
        unfold swp at this
        rw [if_pos rfl] at this
        rw [e2]; exact this
      · have := hs i hi
        unfold swp at this
        rw [if_neg e1, if_neg e2] at this
        exact this
  · rw [stp_no hp] at ho
    exact ho

theorem orth_all {M n : Nat} {R0 : Nat → Nat → Int} {w : Nat → Int} (h : ∀ i k, i < M → k < n → Bit (R0 i k)) (hw : ∀ k, k < n → Bit (w k)) : ∀ c, c ≤ n → (∀ i, i < M → dt ((gj M R0 c).R i) w n = 0) → ∀ i, i < M → dt (R0 i) w n = 0
  | 0, _, ho => ho
  | c + 1, hc, ho => orth_all h hw c (by omega) (orth_step (gi_all h c (by omega)) hw ho)

/-- The word of a column, behind i of the leading columns. -/
def wdf (R : Nat → Nat → Int) (L : Nat → Int) (c : Nat) : Nat → Nat → Int
  | 0 => fun p => if p = c then 1 else 0
  | i + 1 => fun p => if p = (L i).toNat then R i c else wdf R L c i p

theorem wdf_bit {R : Nat → Nat → Int} {L : Nat → Int} {c m : Nat} (h : ∀ i, i < m → Bit (R i c)) : ∀ i, i ≤ m → ∀ p, Bit (wdf R L c i p)
  | 0, _, p => by
    unfold wdf
    split
    · exact .inr rfl
    · exact .inl rfl
  | i + 1, hi, p => by
    unfold wdf
    split
    · exact h i (by omega)
    · exact wdf_bit h i (by omega) p

theorem wdf_far {R : Nat → Nat → Int} {L : Nat → Int} {c q : Nat} : ∀ i, (∀ j, j < i → q ≠ (L j).toNat) → wdf R L c i q = if q = c then 1 else 0
  | 0, _ => rfl
  | i + 1, h => by
    unfold wdf
    rw [if_neg (h i (by omega))]
    exact wdf_far i (fun j hj => h j (by omega))

/-- A free column's word is orthogonal to each row. -/
theorem word_orth {M n c : Nat} {S : Gj} (h : Gi M n n S) (hc : c < n) (hf : ∀ i, i < S.L.length → lf S.L i ≠ (c : Int)) : ∀ i, i < M → dt (S.R i) (wdf S.R (lf S.L) c S.L.length) n = 0 := by
  intro i hi
  by_cases hlt : i < S.L.length
  · have key : ∀ m, m ≤ S.L.length → dt (S.R i) (wdf S.R (lf S.L) c m) n = if i < m then 0 else S.R i c := by
      intro m
      induction m with
      | zero =>
        intro _
        rw [if_neg (by omega)]
        have e0 : dt (S.R i) (fun _ => 0) n = 0 := by
          rw [dt_comm]
          exact dt_nul (fun _ _ => rfl)
        have := dt_put (f := S.R i) (w := fun _ => 0) (n := n) (q := c) (b := 1) hc rfl (.inr rfl)
        rw [e0] at this
        show dt (S.R i) (fun p => if p = c then 1 else 0) n = _
        rw [this]
        rcases h.bit i c hi hc with e | e
        · rw [e]; rfl
        · rw [e]; rfl
      | succ m ih =>
        intro hm
        have hl := h.lead m (by omega)
        have hL : h.len = h.len := rfl
        have hfar : wdf S.R (lf S.L) c m (lf S.L m).toNat = 0 := by
          rw [wdf_far m (fun j hj => ?_), if_neg]
          · have := hf m (by omega)
            omega
          · have h1 := h.asc j m hj (by omega)
            have h2 := h.lead j (by omega)
            omega
        have hmM : m < M := by have := h.len; omega
        have := dt_put (f := S.R i) (w := wdf S.R (lf S.L) c m) (n := n) (q := (lf S.L m).toNat) (b := S.R m c) (by omega) hfar (h.bit m c hmM hc)
        show dt (S.R i) (fun p => if p = (lf S.L m).toNat then S.R m c else wdf S.R (lf S.L) c m p) n = _
        rw [this, ih (by omega), h.one i m hi (by omega)]
        by_cases e : i = m
        · subst e
          rw [if_neg (by omega), if_pos rfl, if_pos (by omega)]
          rcases h.bit i c hi hc with e | e
          · rw [e]; rfl
          · rw [e]; rfl
        · rw [if_neg e]
          have e0 : an 0 (S.R m c) = 0 := by unfold an; rw [if_neg (fun q => by have := q.1; omega)]
          rw [e0]
          by_cases e1 : i < m
          · rw [if_pos e1, if_pos (by omega)]; rfl
          · rw [if_neg e1, if_neg (by omega)]; exact xb_zero (h.bit i c hi hc)
    rw [key _ (Nat.le_refl _), if_pos hlt]
  · exact dt_nul (fun k hk => h.nul i k (by omega) hi hk)

/-- The row of a check. -/
def r0 (Y : Nat → Int) : Nat → Nat → Int
  | 0 => fun _ => 0
  | j + 1 => fun p => if p = (Y j).toNat then 1 else r0 Y j p

theorem r0_bit (Y : Nat → Int) : ∀ j p, Bit (r0 Y j p)
  | 0, _ => .inl rfl
  | j + 1, p => by
    unfold r0
    split
    · exact .inr rfl
    · exact r0_bit Y j p

theorem r0_far {Y : Nat → Int} {q : Nat} : ∀ j, (∀ i, i < j → q ≠ (Y i).toNat) → r0 Y j q = 0
  | 0, _ => rfl
  | j + 1, h => by
    unfold r0
    rw [if_neg (h j (by omega))]
    exact r0_far j (fun i hi => h i (by omega))

/-- The sum of a word's bits at a check's places. -/
def sm (Y xs : Nat → Int) : Nat → Int
  | 0 => 0
  | k + 1 => sm Y xs k + xs (Y k).toNat

theorem sm_bound {Y xs : Nat → Int} {n : Nat} (hx : ∀ k, k < n → Bit (xs k)) : ∀ m, (∀ k, k < m → 0 ≤ Y k ∧ Y k < (n : Int)) → 0 ≤ sm Y xs m ∧ sm Y xs m ≤ (m : Int)
  | 0, _ => ⟨Int.le_refl _, Int.le_refl _⟩
  | m + 1, h => by
    have h1 := sm_bound hx m (fun k hk => h k (by omega))
    have h2 := h m (by omega)
    have h3 := hx (Y m).toNat (by omega)
    unfold sm
    omega

/-- Places that ascend, within n. -/
structure Plc (m : Nat) (Y : Nat → Int) (n : Int) : Prop where
  lim : ∀ k, k < m → 0 ≤ Y k ∧ Y k < n
  asc : ∀ k, k + 1 < m → Y k < Y (k + 1)

theorem Plc.lt {m : Nat} {Y : Nat → Int} {n : Int} (h : Plc m Y n) : ∀ j i, i < j → j < m → Y i < Y j
  | 0, i, hi, _ => absurd hi (Nat.not_lt_zero _)
  | j + 1, i, hi, hj => by
    have h1 := h.asc j hj
    by_cases e : i = j
    · subst e; exact h1
    · have := h.lt j i (by omega) (by omega)
      omega

/-- A check's sum is odd where its row says so. -/
theorem sm_dt {Y xs : Nat → Int} {n m : Nat} (hp : Plc m Y n) (hx : ∀ k, k < n → Bit (xs k)) : ∀ j, j ≤ m → sm Y xs j % 2 = dt (r0 Y j) xs n
  | 0, _ => (dt_nul (f := r0 Y 0) (fun _ _ => rfl)).symm
  | j + 1, hj => by
    have ih := sm_dt hp hx j (by omega)
    have hl := hp.lim j (by omega)
    have hfar : r0 Y j (Y j).toNat = 0 := r0_far j (fun i hi => by
      have h1 := hp.lt j i hi (by omega)
      have h2 := hp.lim i (by omega)
      omega)
    have e := dt_put (f := xs) (w := r0 Y j) (n := n) (q := (Y j).toNat) (b := 1) (by omega) hfar (.inr rfl)
    have e1 : dt (r0 Y (j + 1)) xs n = xb (dt (r0 Y j) xs n) (an (xs (Y j).toNat) 1) := by
      rw [dt_comm (r0 Y (j + 1)), dt_comm (r0 Y j)]
      exact e
    rw [e1, ← ih, show sm Y xs (j + 1) = sm Y xs j + xs (Y j).toNat from rfl]
    have hb := hx (Y j).toNat (by omega)
    generalize sm Y xs j = s at *
    have hs : s % 2 = 0 ∨ s % 2 = 1 := by omega
    rcases hb with hb | hb
    · rw [hb]
      have e2 : an 0 1 = 0 := rfl
      rw [e2]
      rcases hs with hs | hs
      · rw [hs]; show (s + 0) % 2 = 0; omega
      · rw [hs]; show (s + 0) % 2 = 1; omega
    · rw [hb]
      have e2 : an 1 1 = 1 := rfl
      rw [e2]
      rcases hs with hs | hs
      · rw [hs]; show (s + 1) % 2 = 1; omega
      · rw [hs]; show (s + 1) % 2 = 0; omega

/-- The checks that fail. -/
def fls (ms : Nat → Nat) (X : Nat → Nat → Int) (xs : Nat → Int) : Nat → List Int
  | 0 => []
  | k + 1 => if sm (X k) xs (ms k) % 2 = 1 then fls ms X xs k ++ [(k : Int)] else fls ms X xs k

theorem fls_len (ms : Nat → Nat) (X : Nat → Nat → Int) (xs : Nat → Int) : ∀ k, (fls ms X xs k).length ≤ k
  | 0 => Nat.le_refl _
  | k + 1 => by
    have := fls_len ms X xs k
    unfold fls
    split
    · rw [List.length_append, List.length_singleton]; omega
    · omega

theorem fls_yes {ms : Nat → Nat} {X : Nat → Nat → Int} {xs : Nat → Int} {k : Nat} (h : sm (X k) xs (ms k) % 2 = 1) : fls ms X xs (k + 1) = fls ms X xs k ++ [(k : Int)] := by rw [fls, if_pos h]
theorem fls_no {ms : Nat → Nat} {X : Nat → Nat → Int} {xs : Nat → Int} {k : Nat} (h : ¬ sm (X k) xs (ms k) % 2 = 1) : fls ms X xs (k + 1) = fls ms X xs k := by rw [fls, if_neg h]

theorem fls_lim (ms : Nat → Nat) (X : Nat → Nat → Int) (xs : Nat → Int) : ∀ k i, i < (fls ms X xs k).length → 0 ≤ lf (fls ms X xs k) i ∧ lf (fls ms X xs k) i < (k : Int)
  | 0, i, h => absurd h (Nat.not_lt_zero _)
  | k + 1, i, h => by
    by_cases e : sm (X k) xs (ms k) % 2 = 1
    · rw [fls_yes e] at h ⊢
      rw [List.length_append, List.length_singleton] at h
      by_cases e2 : i = (fls ms X xs k).length
      · subst e2; rw [lf_new]; omega
      · rw [lf_old (by omega)]
        have := fls_lim ms X xs k i (by omega)
        omega
    · rw [fls_no e] at h ⊢
      have := fls_lim ms X xs k i h
      omega

/-- No check fails for what is orthogonal to the checks' rows. -/
theorem fls_none {M n : Nat} {ms : Nat → Nat} {X : Nat → Nat → Int} {xs : Nat → Int} (hp : ∀ k, k < M → Plc (ms k) (X k) (n : Int)) (hx : ∀ k, k < n → Bit (xs k)) (ho : ∀ i, i < M → dt (r0 (X i) (ms i)) xs n = 0) : ∀ k, k ≤ M → fls ms X xs k = []
  | 0, _ => rfl
  | k + 1, hk => by
    have := sm_dt (hp k (by omega)) hx (ms k) (Nat.le_refl _)
    rw [ho k (by omega)] at this
    rw [fls_no (by omega)]
    exact fls_none hp hx ho k (by omega)
end Go.Proofs.Ytnfhnchomiejcaa
