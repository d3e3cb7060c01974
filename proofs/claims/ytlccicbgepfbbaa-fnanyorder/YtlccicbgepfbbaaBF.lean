/- How often each block fires, in plain numbers: one part after the other. -/
import Derived.Test.YtlccicbgepfbbaaBA
namespace Go.Proofs.Ytlccicbgepfbbaa
open Go.RowKit

/-- What is so of the numbers of one part, seen from block b0. -/
structure Prt (s : Ws) (n m b0 : Nat) (num : Nat → Nat) : Prop where
  base : 1 ≤ num b0
  mul : ∀ x, Bal s m x → ∃ t, ∀ k, k < n → num k ≠ 0 → x k = t * num k
  out : ∀ S : Nat → Prop, (∀ i, i < m → (S (s.F i) ↔ S (s.T i))) → ¬ S b0 → ∀ k, k < n → num k ≠ 0 → ¬ S k

theorem prt_0 (s : Ws) (n m b0 : Nat) : Prt s n m b0 (fun k => if k = b0 then 1 else 0) :=
  ⟨by simp, fun x _ => ⟨x b0, fun k _ h => by
    by_cases e : k = b0
    · simp only [if_pos e]; rw [e, Nat.mul_one]
    · simp only [if_neg e] at h; exact absurd rfl h⟩, fun S _ h k _ hk => by
    by_cases e : k = b0
    · rw [e]; exact h
    · simp only [if_neg e] at hk; exact absurd rfl hk⟩

/-- All numbers grown; then the one of block o put. -/
def grw (num : Nat → Nat) (g o u k : Nat) : Nat := if k = o then u else num k * g

/-- One wire more: block p is known, block o is not. -/
theorem prt_grow {s : Ws} {n m b0 : Nat} {num : Nat → Nat} (h : Prt s n m b0 num) {i p o a c : Nat} (hi : i < m) (hpo : (p = s.F i ∧ o = s.T i ∧ a = s.G i ∧ c = s.A i) ∨ (p = s.T i ∧ o = s.F i ∧ a = s.A i ∧ c = s.G i))
    (hp : p < n) (ha : 1 ≤ a) (hc : 1 ≤ c) (h1 : num p ≠ 0) (h2 : num o = 0) {g u : Nat} (hg : g = c / Nat.gcd (num p * a) c) (hu : u = num p * g * a / c) :
    Prt s n m b0 (grw num g o u) ∧ 1 ≤ u ∧ 1 ≤ g ∧ num p * g * a = u * c := by
  have pa : 0 < num p * a := Nat.mul_pos (by omega) (by omega)
  obtain ⟨d, hd⟩ : ∃ d, d = Nat.gcd (num p * a) c := ⟨_, rfl⟩
  have dp : 0 < d := by rw [hd]; exact Nat.gcd_pos_of_pos_left _ pa
  have d1 : d ∣ num p * a := by rw [hd]; exact Nat.gcd_dvd_left _ _
  have d2 : d ∣ c := by rw [hd]; exact Nat.gcd_dvd_right _ _
  rw [← hd] at hg
  have e2 : d * g = c := by rw [hg]; exact Nat.mul_div_cancel' d2
  obtain ⟨v, hv⟩ := d1
  have gp : 1 ≤ g := by
    rcases Nat.eq_zero_or_pos g with e | e
    · rw [e] at e2; omega
    · exact e
  have e3 : num p * g * a = v * c := by
    calc num p * g * a = (num p * a) * g := by ac_rfl
      _ = (d * v) * g := by rw [hv]
      _ = v * (d * g) := by ac_rfl
      _ = v * c := by rw [e2]
  have eu : u = v := by rw [hu, e3]; exact Nat.mul_div_cancel v (by omega)
  have up : 1 ≤ u := by
    rcases Nat.eq_zero_or_pos v with e | e
    · rw [e] at hv; omega
    · omega
  have hco : Nat.Coprime v g := by
    have e4 : v = num p * a / d := by rw [hv]; exact (Nat.mul_div_cancel_left v dp).symm
    rw [e4, hg, hd]
    exact Nat.coprime_div_gcd_div_gcd (by rw [← hd]; exact dp)
  have hbo : b0 ≠ o := by
    intro e
    have := h.base
    rw [e, h2] at this
    omega
  refine ⟨⟨?_, fun x hx => ?_, fun S hS hb k hk hne => ?_⟩, up, gp, by rw [eu]; exact e3⟩
  · unfold grw
    rw [if_neg hbo]
    exact Nat.mul_pos (by have := h.base; omega) (by omega)
  · obtain ⟨t, ht⟩ := h.mul x hx
    have hxp := ht p hp h1
    -- x p * a = x o * c
    have hw : x p * a = x o * c := by
      have := hx i hi
      rcases hpo with ⟨rfl, rfl, rfl, rfl⟩ | ⟨rfl, rfl, rfl, rfl⟩
      · exact this
      · exact this.symm
    -- t * v = x o * g
    have h5 : t * v = x o * g := by
      refine Nat.eq_of_mul_eq_mul_left dp ?_
      calc d * (t * v) = t * (d * v) := by ac_rfl
        _ = t * (num p * a) := by rw [← hv]
        _ = (t * num p) * a := by ac_rfl
        _ = x p * a := by rw [← hxp]
        _ = x o * c := hw
        _ = x o * (d * g) := by rw [e2]
        _ = d * (x o * g) := by ac_rfl
    have h6 : g ∣ t := Nat.Coprime.dvd_of_dvd_mul_right hco.symm ⟨x o, by rw [h5]; ac_rfl⟩
    obtain ⟨t2, ht2⟩ := h6
    refine ⟨t2, fun k hk hne => ?_⟩
    unfold grw at hne ⊢
    by_cases e : k = o
    · rw [if_pos e, e, eu]
      refine Nat.eq_of_mul_eq_mul_right (show 0 < g by omega) ?_
      rw [← h5, ht2]
      ac_rfl
    · rw [if_neg e] at hne ⊢
      have hk0 : num k ≠ 0 := fun e0 => hne (by rw [e0, Nat.zero_mul])
      rw [ht k hk hk0, ht2]
      ac_rfl
  · unfold grw at hne
    by_cases e : k = o
    · have hp1 := h.out S hS hb p hp h1
      rw [e]
      intro ho
      refine hp1 ?_
      have := hS i hi
      rcases hpo with ⟨rfl, rfl, rfl, rfl⟩ | ⟨rfl, rfl, rfl, rfl⟩
      · exact this.2 ho
      · exact this.1 ho
    · rw [if_neg e] at hne
      exact h.out S hS hb k hk (fun e0 => hne (by rw [e0, Nat.zero_mul]))

/-- A number that has grown too great: there are none as Balance asks. -/
theorem prt_none {s : Ws} {n m b0 : Nat} {num : Nat → Nat} (h : Prt s n m b0 num) {k : Nat} (hk : k < n) (hb : 2000 < num k) : ¬ ∃ x, Sol s n m x := by
  rintro ⟨x, hx⟩
  obtain ⟨t, ht⟩ := h.mul x hx.2.1
  have h1 := ht k hk (by omega)
  have h2 := hx.1 k hk
  have h3 := smN_one (f := x) hk
  have h4 := hx.2.2
  have h5 : 1 ≤ t := by
    rcases Nat.eq_zero_or_pos t with e | e
    · rw [e, Nat.zero_mul] at h1; omega
    · exact e
  have h6 : num k ≤ t * num k := Nat.le_mul_of_pos_left _ h5
  omega

/-- Whether both ends of each wire are known. -/
def Cls (s : Ws) (m : Nat) (num : Nat → Nat) : Prop := ∀ i, i < m → (num (s.F i) = 0 ↔ num (s.T i) = 0)

/-- Where wires do not fit there are none. -/
theorem prt_bal {s : Ws} {n m b0 : Nat} {num : Nat → Nat} (h : Prt s n m b0 num) (hok : s.ok n m) (hc : Cls s m num) {x : Nat → Nat} (hx : Sol s n m x) (_ : b0 < n) : Bal s m num := by
  obtain ⟨t, ht⟩ := h.mul x hx.2.1
  intro i hi
  by_cases e : num (s.F i) = 0
  · rw [e, (hc i hi).1 e, Nat.zero_mul, Nat.zero_mul]
  · have e2 : num (s.T i) ≠ 0 := fun h0 => e ((hc i hi).2 h0)
    have h1 := ht _ (hok.f i hi) e
    have h2 := ht _ (hok.t i hi) e2
    have h3 := hx.2.1 i hi
    have h4 := hx.1 _ (hok.f i hi)
    have h5 : 0 < t := by
      rcases Nat.eq_zero_or_pos t with e | e
      · rw [e, Nat.zero_mul] at h1; omega
      · exact e
    refine Nat.eq_of_mul_eq_mul_left h5 ?_
    rw [h1, h2] at h3
    calc t * (num (s.F i) * s.G i) = t * num (s.F i) * s.G i := by ac_rfl
      _ = t * num (s.T i) * s.A i := h3
      _ = t * (num (s.T i) * s.A i) := by ac_rfl

/-- Divided by a number that divides all. -/
theorem prt_div {s : Ws} {n m b0 : Nat} {num : Nat → Nat} (h : Prt s n m b0 num) {g : Nat} (hb : b0 < n) (hg : ∀ k, k < n → g ∣ num k) {num' : Nat → Nat} (he : ∀ k, k < n → num' k = num k / g) : Prt s n m b0 num' ∧ ∀ k, k < n → (num' k = 0 ↔ num k = 0) := by
  have gp : 0 < g := by
    rcases Nat.eq_zero_or_pos g with e | e
    · have := hg b0 hb
      rw [e] at this
      have h1 := Nat.eq_zero_of_zero_dvd this
      have := h.base
      omega
    · exact e
  have hm : ∀ k, k < n → num k = g * num' k := fun k hk => by rw [he k hk]; exact (Nat.mul_div_cancel' (hg k hk)).symm
  have hz : ∀ k, k < n → (num' k = 0 ↔ num k = 0) := fun k hk => by
    rw [hm k hk]
    constructor
    · intro e; rw [e, Nat.mul_zero]
    · intro e
      rcases Nat.mul_eq_zero.1 e with e | e
      · omega
      · exact e
  refine ⟨⟨?_, fun x hx => ?_, fun S hS hb2 k hk hne => h.out S hS hb2 k hk (fun e => hne ((hz k hk).2 e))⟩, hz⟩
  · have := h.base
    have := hz b0 hb
    omega
  · obtain ⟨t, ht⟩ := h.mul x hx
    refine ⟨t * g, fun k hk hne => ?_⟩
    rw [ht k hk (fun e => hne ((hz k hk).2 e)), hm k hk]
    ac_rfl

/-- A gcd of k numbers. -/
def gcN (f : Nat → Nat) : Nat → Nat
  | 0 => 0
  | k + 1 => Nat.gcd (gcN f k) (f k)

theorem gcN_dvd (f : Nat → Nat) : ∀ n k, k < n → gcN f n ∣ f k
  | n + 1, k, h => by
    by_cases e : k = n
    · rw [e]; exact Nat.gcd_dvd_right _ _
    · exact Nat.dvd_trans (Nat.gcd_dvd_left _ _) (gcN_dvd f n k (by omega))

theorem gcN_le {f : Nat → Nat} {M : Nat} (h : ∀ n, f n ≤ M) : ∀ n, gcN f n ≤ M
  | 0 => Nat.zero_le _
  | n + 1 => by
    show Nat.gcd (gcN f n) (f n) ≤ M
    rcases Nat.eq_zero_or_pos (f n) with e | e
    · rw [e, Nat.gcd_zero_right]; exact gcN_le h n
    · exact Nat.le_trans (Nat.le_of_dvd e (Nat.gcd_dvd_right _ _)) (h n)

/-- What is so of all that is told behind b blocks. -/
structure All (s : Ws) (n m b : Nat) (out : Nat → Nat) : Prop where
  pos : ∀ k, k < b → 1 ≤ out k
  cls : Cls s m out
  bal : Bal s m out
  mul : ∀ x, Bal s m x → ∀ k, k < n → out k ≠ 0 → ∃ t, x k = t * out k

theorem all_0 (s : Ws) (n m : Nat) : All s n m 0 (fun _ => 0) :=
  ⟨fun k hk => by omega, fun i _ => Iff.rfl, fun i _ => by rw [Nat.zero_mul, Nat.zero_mul], fun x _ k _ h => absurd rfl h⟩

theorem all_skip {s : Ws} {n m b : Nat} {out : Nat → Nat} (h : All s n m b out) (h1 : out b ≠ 0) : All s n m (b + 1) out :=
  ⟨fun k hk => by by_cases e : k = b; · rw [e]; omega
                  · exact h.pos k (by omega), h.cls, h.bal, h.mul⟩

theorem all_add {s : Ws} {n m b : Nat} {out num : Nat → Nat} (_ : s.ok n m) (h : All s n m b out) (h1 : out b = 0) (hp : Prt s n m b num) (hc : Cls s m num) (hb : Bal s m num) : All s n m (b + 1) (fun k => out k + num k) := by
  refine ⟨fun k hk => ?_, fun i hi => ?_, fun i hi => ?_, fun x hx k hk hne => ?_⟩
  · by_cases e : k = b
    · rw [e]; have := hp.base; omega
    · have := h.pos k (by omega); omega
  · have a := h.cls i hi
    have c := hc i hi
    constructor
    · intro e
      have e1 := a.1 (by omega)
      have e2 := c.1 (by omega)
      omega
    · intro e
      have e1 := a.2 (by omega)
      have e2 := c.2 (by omega)
      omega
  · have a := h.bal i hi
    have c := hb i hi
    show (out (s.F i) + num (s.F i)) * s.G i = (out (s.T i) + num (s.T i)) * s.A i
    rw [Nat.add_mul, Nat.add_mul, a, c]
  · by_cases e : num k = 0
    · obtain ⟨t, ht⟩ := h.mul x hx k hk (by intro e0; exact hne (by show out k + num k = 0; omega))
      exact ⟨t, by rw [ht, e, Nat.add_zero]⟩
    · have h0 : out k = 0 := by
        have := hp.out (fun q => out q ≠ 0) (fun i hi => not_congr (h.cls i hi)) (fun g => g h1) k hk e
        exact Classical.not_not.1 this
      obtain ⟨t, ht⟩ := hp.mul x hx
      exact ⟨t, by rw [ht k hk e, h0, Nat.zero_add]⟩

theorem all_below {s : Ws} {n m b : Nat} {out x : Nat → Nat} (h : All s n m b out) (hx : Sol s n m x) {k : Nat} (hk : k < n) : out k ≤ x k := by
  rcases Nat.eq_zero_or_pos (out k) with e | e
  · rw [e]; exact Nat.zero_le _
  · obtain ⟨t, ht⟩ := h.mul x hx.2.1 k hk (by omega)
    have := hx.1 k hk
    have h5 : 0 < t := by
      rcases Nat.eq_zero_or_pos t with e | e
      · rw [e, Nat.zero_mul] at ht; omega
      · exact e
    rw [ht]
    exact Nat.le_mul_of_pos_left _ h5

theorem all_end {s : Ws} {n m : Nat} {out : Nat → Nat} (h : All s n m n out) (hs : smN n out ≤ 2000) : Lst s n m out :=
  ⟨⟨h.pos, h.bal, hs⟩, fun _ hx _ hb => all_below h hx hb⟩

theorem all_few {s : Ws} {n m b : Nat} {out : Nat → Nat} (h : All s n m b out) (hs : ¬ smN n out ≤ 2000) : ¬ ∃ x, Sol s n m x := by
  rintro ⟨x, hx⟩
  have h1 : smN n out ≤ smN n x := smN_le fun k hk => all_below h hx hk
  have := hx.2.2
  omega
end Go.Proofs.Ytlccicbgepfbbaa
