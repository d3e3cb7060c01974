/- How often each block fires, in plain numbers: groups made one. -/
import Derived.Test.YtlccicbgepfbbaaWE
namespace Go.Proofs.Ytlccicbgepfbbaa
open Go.RowKit

/-- A sum of n numbers. -/
def smN (n : Nat) (f : Nat → Nat) : Nat := match n with
  | 0 => 0
  | k + 1 => smN k f + f k

theorem smN_le {n : Nat} {f g : Nat → Nat} (h : ∀ k, k < n → f k ≤ g k) : smN n f ≤ smN n g := by
  induction n with
  | zero => exact Nat.le_refl _
  | succ n ih =>
    have h1 := ih fun k hk => h k (by omega)
    have h2 := h n (by omega)
    show smN n f + f n ≤ smN n g + g n
    omega

theorem smN_one {n : Nat} {f : Nat → Nat} {k : Nat} (hk : k < n) : f k ≤ smN n f := by
  induction n with
  | zero => omega
  | succ n ih =>
    show f k ≤ smN n f + f n
    by_cases e : k = n
    · subst e; omega
    · have := ih (by omega); omega

theorem smN_congr {n : Nat} {f g : Nat → Nat} (h : ∀ k, k < n → f k = g k) : smN n f = smN n g :=
  Nat.le_antisymm (smN_le fun k hk => Nat.le_of_eq (h k hk)) (smN_le fun k hk => Nat.le_of_eq (h k hk).symm)

/-- Wires in plain numbers. -/
structure Ws where
  F : Nat → Nat
  T : Nat → Nat
  G : Nat → Nat
  A : Nat → Nat

structure Ws.ok (s : Ws) (n m : Nat) : Prop where
  f : ∀ i, i < m → s.F i < n
  t : ∀ i, i < m → s.T i < n
  g : ∀ i, i < m → 1 ≤ s.G i ∧ s.G i ≤ 64
  a : ∀ i, i < m → 1 ≤ s.A i ∧ s.A i ≤ 64

/-- As often as each block fires, so that the first k wires fit. -/
def Bal (s : Ws) (k : Nat) (x : Nat → Nat) : Prop := ∀ i, i < k → x (s.F i) * s.G i = x (s.T i) * s.A i

/-- Numbers as Balance asks, but for the least. -/
def Sol (s : Ws) (n m : Nat) (x : Nat → Nat) : Prop := (∀ b, b < n → 1 ≤ x b) ∧ Bal s m x ∧ smN n x ≤ 2000

def Lst (s : Ws) (n m : Nat) (r : Nat → Nat) : Prop := Sol s n m r ∧ ∀ x, Sol s n m x → ∀ b, b < n → r b ≤ x b

theorem lst_one {s : Ws} {n m : Nat} {r r' : Nat → Nat} (h : Lst s n m r) (h' : Lst s n m r') {b : Nat} (hb : b < n) : r b = r' b :=
  Nat.le_antisymm (h.2 _ h'.1 b hb) (h'.2 _ h.1 b hb)

theorem Bal.less {s : Ws} {k : Nat} {x : Nat → Nat} (h : Bal s (k + 1) x) : Bal s k x := fun i hi => h i (by omega)

/-- What is so behind k wires. -/
structure Inv (s : Ws) (n k : Nat) (f g : Nat → Nat) : Prop where
  pos : ∀ b, b < n → 1 ≤ f b
  grp : ∀ b, b < n → g b < n
  bal : ∀ i, i < k → g (s.F i) = g (s.T i) ∧ f (s.F i) * s.G i = f (s.T i) * s.A i
  rel : ∀ x, Bal s k x → ∀ b, b < n → ∀ c, c < n → g b = g c → x b * f c = x c * f b
  dvd : ∀ x, Bal s k x → ∀ b, b < n → f b ∣ x b

theorem inv_0 (s : Ws) (n : Nat) : Inv s n 0 (fun _ => 1) (fun i => i) :=
  ⟨fun _ _ => Nat.le_refl _, fun _ h => h, fun i hi => by omega, fun x _ b _ c _ e => by rw [e], fun x _ b _ => Nat.one_dvd _⟩

theorem inv_same {s : Ws} {n k : Nat} {f g : Nat → Nat} (h : Inv s n k f g) (h1 : g (s.F k) = g (s.T k)) (h2 : f (s.F k) * s.G k = f (s.T k) * s.A k) : Inv s n (k + 1) f g :=
  ⟨h.pos, h.grp, fun i hi => by
    by_cases e : i = k
    · rw [e]; exact ⟨h1, h2⟩
    · exact h.bal i (by omega), fun x hx => h.rel x hx.less, fun x hx => h.dvd x hx.less⟩

theorem inv_none {s : Ws} {n k : Nat} {f g : Nat → Nat} (h : Inv s n k f g) (hF : s.F k < n) (hT : s.T k < n) (h1 : g (s.F k) = g (s.T k)) (h2 : ¬ f (s.F k) * s.G k = f (s.T k) * s.A k) {x : Nat → Nat} (hx : Bal s (k + 1) x) (hp : 1 ≤ x (s.T k)) : False := by
  have e1 := h.rel x hx.less (s.F k) hF (s.T k) hT h1
  have e2 := hx k (by omega)
  refine h2 (Nat.eq_of_mul_eq_mul_right (show 0 < x (s.T k) by omega) ?_)
  calc f (s.F k) * s.G k * x (s.T k) = (x (s.T k) * f (s.F k)) * s.G k := by ac_rfl
    _ = (x (s.F k) * f (s.T k)) * s.G k := by rw [e1]
    _ = f (s.T k) * (x (s.F k) * s.G k) := by ac_rfl
    _ = f (s.T k) * (x (s.T k) * s.A k) := by rw [e2]
    _ = f (s.T k) * s.A k * x (s.T k) := by ac_rfl

/-- Two groups made one. -/
def joinF (f g : Nat → Nat) (from_ to_ gx tx b : Nat) : Nat := if g b = to_ then f b * gx else if g b = from_ then f b * tx else f b
def joinG (g : Nat → Nat) (from_ to_ b : Nat) : Nat := if g b = to_ then to_ else if g b = from_ then to_ else g b

theorem joinG_eq (g : Nat → Nat) (from_ to_ b : Nat) : joinG g from_ to_ b = if g b = from_ then to_ else g b := by
  unfold joinG
  by_cases h : g b = to_
  · rw [if_pos h]
    by_cases h2 : g b = from_
    · rw [if_pos h2]
    · rw [if_neg h2, h]
  · rw [if_neg h]

theorem inv_join {s : Ws} {n k : Nat} {f g : Nat → Nat} (h : Inv s n k f g) (hF : s.F k < n) (hT : s.T k < n) (hG : 1 ≤ s.G k) (hA : 1 ≤ s.A k) (h1 : ¬ g (s.F k) = g (s.T k)) (_ : ∀ i, i < k → s.F i < n ∧ s.T i < n)
    {d gx tx : Nat} (hd : d = Nat.gcd (f (s.F k) * s.G k) (f (s.T k) * s.A k)) (hgx : gx = f (s.F k) * s.G k / d) (htx : tx = f (s.T k) * s.A k / d) :
    Inv s n (k + 1) (joinF f g (g (s.F k)) (g (s.T k)) gx tx) (joinG g (g (s.F k)) (g (s.T k))) := by
  have pF := h.pos _ hF
  have pT := h.pos _ hT
  have p1 : 0 < f (s.F k) * s.G k := Nat.mul_pos (by omega) (by omega)
  have p2 : 0 < f (s.T k) * s.A k := Nat.mul_pos (by omega) (by omega)
  have dp : 0 < d := by rw [hd]; exact Nat.gcd_pos_of_pos_left _ p1
  have d1 : d * gx = f (s.F k) * s.G k := by rw [hgx]; exact Nat.mul_div_cancel' (by rw [hd]; exact Nat.gcd_dvd_left _ _)
  have d2 : d * tx = f (s.T k) * s.A k := by rw [htx]; exact Nat.mul_div_cancel' (by rw [hd]; exact Nat.gcd_dvd_right _ _)
  have hgp : 1 ≤ gx := by
    rcases Nat.eq_zero_or_pos gx with e | e
    · rw [e] at d1; omega
    · exact e
  have htp : 1 ≤ tx := by
    rcases Nat.eq_zero_or_pos tx with e | e
    · rw [e] at d2; omega
    · exact e
  have hco : Nat.Coprime gx tx := by
    rw [hgx, htx, hd]
    exact Nat.coprime_div_gcd_div_gcd (by rw [← hd]; exact dp)
  obtain ⟨P, hP⟩ : ∃ P, P = s.F k := ⟨_, rfl⟩
  obtain ⟨Q, hQ⟩ : ∃ Q, Q = s.T k := ⟨_, rfl⟩
  -- what is so of each solution
  have key : ∀ x, Bal s (k + 1) x → ∀ b, b < n → g b = g P → ∀ c, c < n → g c = g Q → x b * (f c * gx) = x c * (f b * tx) := by
    intro x hx b hb eb c hc ec
    rw [hP] at eb
    rw [hQ] at ec
    have r1 := h.rel x hx.less b hb (s.F k) hF eb
    have r2 := h.rel x hx.less c hc (s.T k) hT ec
    have e := hx k (by omega)
    refine Nat.eq_of_mul_eq_mul_left dp ?_
    calc d * (x b * (f c * gx)) = x b * f c * (d * gx) := by ac_rfl
      _ = x b * f c * (f (s.F k) * s.G k) := by rw [d1]
      _ = (x b * f (s.F k)) * f c * s.G k := by ac_rfl
      _ = (x (s.F k) * f b) * f c * s.G k := by rw [r1]
      _ = (x (s.F k) * s.G k) * f b * f c := by ac_rfl
      _ = (x (s.T k) * s.A k) * f b * f c := by rw [e]
      _ = (x (s.T k) * f c) * f b * s.A k := by ac_rfl
      _ = (x c * f (s.T k)) * f b * s.A k := by rw [r2]
      _ = x c * f b * (f (s.T k) * s.A k) := by ac_rfl
      _ = x c * f b * (d * tx) := by rw [d2]
      _ = d * (x c * (f b * tx)) := by ac_rfl
  have jF1 : ∀ b, g b = g (s.T k) → joinF f g (g (s.F k)) (g (s.T k)) gx tx b = f b * gx := fun b e => by unfold joinF; rw [if_pos e]
  have jF2 : ∀ b, g b = g (s.F k) → joinF f g (g (s.F k)) (g (s.T k)) gx tx b = f b * tx := fun b e => by unfold joinF; rw [if_neg (by rw [e]; exact h1), if_pos e]
  have jF3 : ∀ b, ¬ g b = g (s.T k) → ¬ g b = g (s.F k) → joinF f g (g (s.F k)) (g (s.T k)) gx tx b = f b := fun b e e2 => by unfold joinF; rw [if_neg e, if_neg e2]
  refine ⟨fun b hb => ?_, fun b hb => ?_, fun i hi => ?_, fun x hx b hb c hc e => ?_, fun x hx b hb => ?_⟩
  · have := h.pos b hb
    unfold joinF
    split
    · exact Nat.mul_pos (by omega) (by omega)
    · split
      · exact Nat.mul_pos (by omega) (by omega)
      · exact this
  · rw [joinG_eq]
    split
    · exact h.grp _ hT
    · exact h.grp b hb
  · by_cases ei : i = k
    · rw [ei, joinG_eq, joinG_eq, if_pos rfl, if_neg (fun e => h1 e.symm), jF2 _ rfl, jF1 _ rfl]
      refine ⟨rfl, ?_⟩
      calc f (s.F k) * tx * s.G k = (f (s.F k) * s.G k) * tx := by ac_rfl
        _ = d * gx * tx := by rw [d1]
        _ = (d * tx) * gx := by ac_rfl
        _ = f (s.T k) * s.A k * gx := by rw [d2]
        _ = f (s.T k) * gx * s.A k := by ac_rfl
    · have hb := h.bal i (by omega)
      refine ⟨by rw [joinG_eq, joinG_eq, hb.1], ?_⟩
      unfold joinF
      rw [hb.1]
      split
      · calc f (s.F i) * gx * s.G i = (f (s.F i) * s.G i) * gx := by ac_rfl
          _ = (f (s.T i) * s.A i) * gx := by rw [hb.2]
          _ = f (s.T i) * gx * s.A i := by ac_rfl
      · split
        · calc f (s.F i) * tx * s.G i = (f (s.F i) * s.G i) * tx := by ac_rfl
            _ = (f (s.T i) * s.A i) * tx := by rw [hb.2]
            _ = f (s.T i) * tx * s.A i := by ac_rfl
        · exact hb.2
  · rw [joinG_eq, joinG_eq] at e
    by_cases b1 : g b = g (s.F k)
    · rw [if_pos b1] at e
      by_cases c1 : g c = g (s.F k)
      · rw [jF2 b b1, jF2 c c1]
        have := h.rel x hx.less b hb c hc (by rw [b1, c1])
        calc x b * (f c * tx) = (x b * f c) * tx := by ac_rfl
          _ = (x c * f b) * tx := by rw [this]
          _ = x c * (f b * tx) := by ac_rfl
      · rw [if_neg c1] at e
        rw [jF2 b b1, jF1 c e.symm]
        exact key x hx b hb (by rw [hP]; exact b1) c hc (by rw [hQ]; exact e.symm)
    · rw [if_neg b1] at e
      by_cases c1 : g c = g (s.F k)
      · rw [if_pos c1] at e
        rw [jF2 c c1, jF1 b e]
        exact (key x hx c hc (by rw [hP]; exact c1) b hb (by rw [hQ]; exact e)).symm
      · rw [if_neg c1] at e
        have := h.rel x hx.less b hb c hc e
        by_cases b2 : g b = g (s.T k)
        · rw [jF1 b b2, jF1 c (by rw [← e]; exact b2)]
          calc x b * (f c * gx) = (x b * f c) * gx := by ac_rfl
            _ = (x c * f b) * gx := by rw [this]
            _ = x c * (f b * gx) := by ac_rfl
        · rw [jF3 b b2 b1, jF3 c (by rw [← e]; exact b2) c1]
          exact this
  · have hdb := h.dvd x hx.less b hb
    by_cases b1 : g b = g (s.F k)
    · rw [jF2 b b1]
      obtain ⟨t, ht⟩ := hdb
      obtain ⟨u, hu⟩ := h.dvd x hx.less (s.T k) hT
      have hk := key x hx b hb (by rw [hP]; exact b1) (s.T k) hT (by rw [hQ])
      have hbp := h.pos b hb
      -- t * gx = u * tx
      have e3 : t * gx = u * tx := by
        refine Nat.eq_of_mul_eq_mul_left (show 0 < f b * f (s.T k) from Nat.mul_pos (by omega) (by omega)) ?_
        calc f b * f (s.T k) * (t * gx) = (f b * t) * (f (s.T k) * gx) := by ac_rfl
          _ = x b * (f (s.T k) * gx) := by rw [← ht]
          _ = x (s.T k) * (f b * tx) := hk
          _ = (f (s.T k) * u) * (f b * tx) := by rw [← hu]
          _ = f b * f (s.T k) * (u * tx) := by ac_rfl
      have h4 : tx ∣ t := Nat.Coprime.dvd_of_dvd_mul_right hco.symm ⟨u, by rw [e3]; ac_rfl⟩
      obtain ⟨t2, ht2⟩ := h4
      exact ⟨t2, by rw [ht, ht2]; ac_rfl⟩
    · by_cases b2 : g b = g (s.T k)
      · rw [jF1 b b2]
        obtain ⟨u, hu⟩ := hdb
        obtain ⟨t, ht⟩ := h.dvd x hx.less (s.F k) hF
        have hk := key x hx (s.F k) hF (by rw [hP]) b hb (by rw [hQ]; exact b2)
        have hbp := h.pos b hb
        have e3 : t * gx = u * tx := by
          refine Nat.eq_of_mul_eq_mul_left (show 0 < f b * f (s.F k) from Nat.mul_pos (by omega) (by omega)) ?_
          calc f b * f (s.F k) * (t * gx) = (f (s.F k) * t) * (f b * gx) := by ac_rfl
            _ = x (s.F k) * (f b * gx) := by rw [← ht]
            _ = x b * (f (s.F k) * tx) := hk
            _ = (f b * u) * (f (s.F k) * tx) := by rw [← hu]
            _ = f b * f (s.F k) * (u * tx) := by ac_rfl
        have h4 : gx ∣ u := Nat.Coprime.dvd_of_dvd_mul_right hco ⟨t, by rw [← e3]; ac_rfl⟩
        obtain ⟨u2, hu2⟩ := h4
        exact ⟨u2, by rw [hu, hu2]; ac_rfl⟩
      · rw [jF3 b b2 b1]
        exact hdb

theorem inv_below {s : Ws} {n m k : Nat} {f g : Nat → Nat} (h : Inv s n k f g) (hk : k ≤ m) {x : Nat → Nat} (hx : Sol s n m x) {b : Nat} (hb : b < n) : f b ≤ x b :=
  Nat.le_of_dvd (by have := hx.1 b hb; omega) (h.dvd x (fun i hi => hx.2.1 i (by omega)) b hb)

theorem inv_few {s : Ws} {n m k : Nat} {f g : Nat → Nat} (h : Inv s n k f g) (hk : k ≤ m) (hf : ¬ smN n f ≤ 2000) : ¬ ∃ x, Sol s n m x := by
  rintro ⟨x, hx⟩
  have h1 : smN n f ≤ smN n x := smN_le fun b hb => inv_below h hk hx hb
  have := hx.2.2
  omega

theorem inv_end {s : Ws} {n m : Nat} {f g : Nat → Nat} (h : Inv s n m f g) (hf : smN n f ≤ 2000) : Lst s n m f :=
  ⟨⟨h.pos, fun i hi => (h.bal i hi).2, hf⟩, fun _ hx _ hb => inv_below h (Nat.le_refl _) hx hb⟩

theorem lst_ex {s : Ws} {n m : Nat} (hs : s.ok n m) {x : Nat → Nat} (hx : Sol s n m x) : ∃ r, Lst s n m r := by
  have go : ∀ k, k ≤ m → ∃ f g, Inv s n k f g := by
    intro k
    induction k with
    | zero => exact fun _ => ⟨_, _, inv_0 s n⟩
    | succ k ih =>
      intro hk
      obtain ⟨f, g, h⟩ := ih (by omega)
      by_cases h1 : g (s.F k) = g (s.T k)
      · by_cases h2 : f (s.F k) * s.G k = f (s.T k) * s.A k
        · exact ⟨f, g, inv_same h h1 h2⟩
        · exact (inv_none h (hs.f k (by omega)) (hs.t k (by omega)) h1 h2 (fun i hi => hx.2.1 i (by omega)) (hx.1 _ (hs.t k (by omega)))).elim
      · exact ⟨_, _, inv_join h (hs.f k (by omega)) (hs.t k (by omega)) (hs.g k (by omega)).1 (hs.a k (by omega)).1 h1 (fun i hi => ⟨hs.f i (by omega), hs.t i (by omega)⟩) rfl rfl rfl⟩
  obtain ⟨f, g, h⟩ := go m (Nat.le_refl _)
  by_cases hf : smN n f ≤ 2000
  · exact ⟨f, inv_end h hf⟩
  · exact ((inv_few h (Nat.le_refl _) hf) ⟨x, hx⟩).elim
end Go.Proofs.Ytlccicbgepfbbaa
