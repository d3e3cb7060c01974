/- Roots of whole numbers, cut off, and how they are rounded. -/
import Derived.Test.YtghblaphkbcgpaaDoorHJ0
namespace Go.Proofs.YtghblaphkbcgpaaDoor

/-- The root of A, cut off. -/
def Isq (A r : Nat) : Prop := r * r ≤ A ∧ A < (r + 1) * (r + 1)

theorem sq_lt {a b : Nat} (h : a * a < b * b) : a < b := by
  rcases Nat.lt_or_ge a b with h1 | h1
  · exact h1
  · exact absurd (Nat.mul_le_mul h1 h1) (by omega)

theorem isq_cut {A r1 r2 d : Nat} (h1 : Isq A r1) (h2 : Isq (A * (2 ^ d * 2 ^ d)) r2) : r2 / 2 ^ d = r1 ∧ (r1 * r1 = A ↔ (r2 % 2 ^ d = 0 ∧ r2 * r2 = A * (2 ^ d * 2 ^ d))) := by
  obtain ⟨a1, a2⟩ := h1
  obtain ⟨b1, b2⟩ := h2
  have hp : 0 < 2 ^ d := Nat.pow_pos (by decide)
  generalize 2 ^ d = P at *
  have e1 : r1 * P * (r1 * P) = r1 * r1 * (P * P) := by grind
  have e2 : (r1 + 1) * P * ((r1 + 1) * P) = (r1 + 1) * (r1 + 1) * (P * P) := by grind
  have hPP : 0 < P * P := Nat.mul_pos hp hp
  have c1 : r1 * P < r2 + 1 := sq_lt (by
    rw [e1]
    exact Nat.lt_of_le_of_lt (Nat.mul_le_mul_right _ a1) b2)
  have c2 : r2 < (r1 + 1) * P := sq_lt (by
    rw [e2]
    exact Nat.lt_of_le_of_lt b1 (Nat.mul_lt_mul_of_pos_right a2 hPP))
  have hq : r2 / P = r1 := by
    apply Nat.div_eq_of_lt_le
    · omega
    · exact c2
  refine ⟨hq, fun h => ?_, fun ⟨h3, h4⟩ => ?_⟩
  · have e3 : r1 * P * (r1 * P) = A * (P * P) := by rw [e1, h]
    have c3 : r2 < r1 * P + 1 := sq_lt (by
      refine Nat.lt_of_le_of_lt b1 ?_
      rw [← e3]
      have : (r1 * P + 1) * (r1 * P + 1) = r1 * P * (r1 * P) + 2 * (r1 * P) + 1 := by grind
      omega)
    have e4 : r2 = r1 * P := by omega
    rw [e4]
    exact ⟨Nat.mul_mod_left _ _, e3⟩
  · have e4 : r2 = r1 * P := by
      have := Nat.div_add_mod r2 P
      rw [hq, h3, Nat.add_zero, Nat.mul_comm] at this
      exact this.symm
    rw [e4, e1] at h4
    exact Nat.eq_of_mul_eq_mul_right hPP h4

/-- A number with something behind it rounds as twice it and one. -/
theorem rnd_more {p t h S mode e : Int} (neg : Bool) {N : Nat} (hp1 : p ≤ 53) (hN : 2 ^ 54 ≤ N) :
    rndV p t h S mode (e - 1) neg (2 * N + 1) false = rndV p t h S mode e neg N true ∧ rndF p t h mode (e - 1) neg (2 * N + 1) false = rndF p t h mode e neg N true := by
  have hN0 : 0 < N := Nat.lt_of_lt_of_le (Nat.pow_pos (by decide)) hN
  have hb : blen (2 * N + 1) = blen N + 1 := by
    have h1 : 0 < (2 * N + 1) / 2 ^ 1 := by omega
    rw [blen_div h1, show (2 * N + 1) / 2 ^ 1 = N by omega]
  have hb55 : 55 ≤ blen N := by
    obtain ⟨h0, h1, h2⟩ := blen_pos hN0
    rcases Nat.lt_or_ge (blen N) 55 with h | h
    · have := Nat.pow_le_pow_right (show 0 < 2 by decide) (show blen N ≤ 54 by omega)
      omega
    · exact h
  have hu : uOf p t (e - 1) (2 * N + 1) = uOf p t e N := by
    unfold uOf
    rw [hb]
    have : e - 1 + ((blen N + 1 : Nat) : Int) - 1 = e + (blen N : Int) - 1 := by omega
    rw [this]
  obtain ⟨g1, g2, _, _⟩ := uOf_ge p t e N
  obtain ⟨d, hd⟩ : ∃ d : Nat, uOf p t e N - e = ((d + 1 : Nat) : Int) := ⟨(uOf p t e N - e - 1).toNat, by omega⟩
  have hd2 : uOf p t e N - (e - 1) = ((d + 2 : Nat) : Int) := by omega
  have hP : 0 < 2 ^ d := Nat.pow_pos (by decide)
  have m1 : mOf (2 * N + 1) ((d + 2 : Nat) : Int) = mOf N ((d + 1 : Nat) : Int) := by
    unfold mOf
    rw [if_neg (by omega), if_neg (by omega), Int.toNat_natCast, Int.toNat_natCast, Nat.pow_succ 2 (d + 1), Nat.mul_comm (2 ^ (d + 1)) 2, ← Nat.div_div_eq_div_mul, show (2 * N + 1) / 2 = N by omega]
  have r1 : rOf (2 * N + 1) ((d + 2 : Nat) : Int) = 2 * rOf N ((d + 1 : Nat) : Int) + 1 := by
    unfold rOf
    rw [if_neg (by omega), if_neg (by omega), Int.toNat_natCast, Int.toNat_natCast, Nat.pow_succ 2 (d + 1), Nat.mul_comm (2 ^ (d + 1)) 2]
    have h1 := Nat.div_add_mod N (2 ^ (d + 1))
    have h2 := Nat.mod_lt N (Nat.pow_pos (n := d + 1) (show 0 < 2 by decide))
    generalize 2 ^ (d + 1) = Q at *
    have h3 : 2 * N + 1 = 2 * (N % Q) + 1 + 2 * Q * (N / Q) := by
      have : 2 * Q * (N / Q) = 2 * (Q * (N / Q)) := by grind
      omega
    rw [h3, Nat.add_mul_mod_self_left]
    exact Nat.mod_eq_of_lt (by omega)
  have s1 : sOf (2 * N + 1) ((d + 2 : Nat) : Int) false = sOf N ((d + 1 : Nat) : Int) true := by
    unfold sOf
    rw [r1]
    simp
  have h1 : hOf (2 * N + 1) ((d + 2 : Nat) : Int) false = hOf N ((d + 1 : Nat) : Int) true := by
    unfold hOf
    rw [if_neg (show ¬ ((d + 2 : Nat) : Int) ≤ 0 by omega), if_neg (show ¬ ((d + 1 : Nat) : Int) ≤ 0 by omega), r1, Int.toNat_natCast, Int.toNat_natCast, show d + 2 - 1 = d + 1 by omega, show d + 1 - 1 = d by omega, Nat.pow_succ]
    generalize rOf N ((d + 1 : Nat) : Int) = r
    rcases Nat.lt_trichotomy r (2 ^ d) with h | h | h
    · have c1 : cmpOf (2 * r + 1) (2 ^ d * 2) = -1 := by unfold cmpOf; rw [if_pos (by omega)]
      have c2 : cmpOf r (2 ^ d) = -1 := by unfold cmpOf; rw [if_pos h]
      rw [c1, c2]
      simp
    · have c1 : cmpOf (2 * r + 1) (2 ^ d * 2) = 1 := by unfold cmpOf; rw [if_neg (by omega), if_neg (by omega)]
      have c2 : cmpOf r (2 ^ d) = 0 := by unfold cmpOf; rw [if_neg (by omega), if_pos h]
      rw [c1, c2]
      simp
    · have c1 : cmpOf (2 * r + 1) (2 ^ d * 2) = 1 := by unfold cmpOf; rw [if_neg (by omega), if_neg (by omega)]
      have c2 : cmpOf r (2 ^ d) = 1 := by unfold cmpOf; rw [if_neg (by omega), if_neg (by omega)]
      rw [c1, c2]
      simp
  have k1 : kOf mode neg (2 * N + 1) ((d + 2 : Nat) : Int) false = kOf mode neg N ((d + 1 : Nat) : Int) true := by
    unfold kOf
    rw [m1, h1, s1]
  have z1 : zOf p t h mode (e - 1) neg (2 * N + 1) false = zOf p t h mode e neg N true := by
    unfold zOf
    rw [hu, hd, hd2, k1]
  have f1 : fOf t (e - 1) (2 * N + 1) ((d + 2 : Nat) : Int) false = fOf t e N ((d + 1 : Nat) : Int) true := by
    unfold fOf
    rw [s1, hb, show e - 1 + ((blen N + 1 : Nat) : Int) - 1 = e + (blen N : Int) - 1 by omega]
  refine ⟨?_, ?_⟩
  · unfold rndV
    rw [z1]
  · unfold rndF
    rw [z1, hu, hd, hd2, f1]

/-- The root in one word, what is left jammed, rounds as the longer root with what is behind it. -/
theorem rnd_root {p t h S mode e : Int} {A r1 r2 d : Nat} (hp1 : p ≤ 53) (h1 : Isq A r1) (h2 : Isq (A * (2 ^ d * 2 ^ d)) r2) (hr : 2 ^ 54 ≤ r1) (neg : Bool) :
    rndV p t h S mode (e + d) neg (jam r1 (A - r1 * r1)) false = rndV p t h S mode e neg r2 (!decide (r2 * r2 = A * (2 ^ d * 2 ^ d))) ∧ rndF p t h mode (e + d) neg (jam r1 (A - r1 * r1)) false = rndF p t h mode e neg r2 (!decide (r2 * r2 = A * (2 ^ d * 2 ^ d))) := by
  obtain ⟨hq, hx⟩ := isq_cut h1 h2
  have hp : 0 < 2 ^ d := Nat.pow_pos (by decide)
  have hr2 : 2 ^ 54 ≤ r2 := by
    have := Nat.div_le_self r2 (2 ^ d)
    omega
  have hr20 : 0 < r2 := Nat.lt_of_lt_of_le (Nat.pow_pos (by decide)) hr2
  have key : ∀ b : Nat, b ≤ 1 → (b = 0 ↔ r2 * r2 = A * (2 ^ d * 2 ^ d)) → jam r1 (A - r1 * r1) = jam ((2 * r2 + b) / 2 ^ (d + 1)) ((2 * r2 + b) % 2 ^ (d + 1)) ∧ (2 * r2 + b) / 2 ^ (d + 1) = r1 := by
    intro b hb hb0
    have e1 : (2 * r2 + b) / 2 ^ (d + 1) = r1 := by
      rw [Nat.pow_succ, Nat.mul_comm (2 ^ d) 2, ← Nat.div_div_eq_div_mul, show (2 * r2 + b) / 2 = r2 by omega, hq]
    refine ⟨?_, e1⟩
    rw [e1]
    have e2 : (2 * r2 + b) % 2 ^ (d + 1) = 2 * (r2 % 2 ^ d) + b := by
      rw [Nat.pow_succ, Nat.mul_comm (2 ^ d) 2]
      have g1 := Nat.div_add_mod r2 (2 ^ d)
      have g2 := Nat.mod_lt r2 hp
      generalize 2 ^ d = Q at *
      have g3 : 2 * r2 + b = 2 * (r2 % Q) + b + 2 * Q * (r2 / Q) := by
        have : 2 * Q * (r2 / Q) = 2 * (Q * (r2 / Q)) := by grind
        omega
      rw [g3, Nat.add_mul_mod_self_left]
      exact Nat.mod_eq_of_lt (by omega)
    rw [e2]
    have a1 := h1.1
    have hz : A - r1 * r1 = 0 ↔ 2 * (r2 % 2 ^ d) + b = 0 := by
      constructor
      · intro h
        obtain ⟨y1, y2⟩ := hx.1 (by omega)
        have := hb0.2 y2
        omega
      · intro h
        have := hx.2 ⟨by omega, hb0.1 (by omega)⟩
        omega
    unfold jam
    by_cases h : A - r1 * r1 = 0
    · rw [if_pos h, if_pos (hz.1 h)]
    · rw [if_neg h, if_neg (fun g => h (hz.2 g))]
  by_cases hall : r2 * r2 = A * (2 ^ d * 2 ^ d)
  · rw [decide_eq_true hall]
    obtain ⟨k1, k2⟩ := key 0 (by omega) ⟨fun _ => hall, fun _ => rfl⟩
    rw [k1]
    have j := rnd_jam (p := p) (t := t) (h := h) (S := S) (mode := mode) (e := e - 1) neg (N := 2 * r2 + 0) (c := d + 1) hp1 (by rw [k2]; exact hr)
    have sc := rnd_scale (p := p) (t := t) (h := h) (S := S) (mode := mode) (e := e) neg (N := r2) (s := 1) hr20
    rw [show e - 1 + ((d + 1 : Nat) : Int) = e + d by omega] at j
    rw [show r2 * 2 ^ 1 = 2 * r2 + 0 by omega, show e - ((1 : Nat) : Int) = e - 1 by omega] at sc
    exact ⟨j.1.trans sc.1, j.2.trans sc.2⟩
  · rw [decide_eq_false hall]
    obtain ⟨k1, k2⟩ := key 1 (by omega) ⟨fun h => absurd h (by decide), fun h => absurd h hall⟩
    rw [k1]
    have j := rnd_jam (p := p) (t := t) (h := h) (S := S) (mode := mode) (e := e - 1) neg (N := 2 * r2 + 1) (c := d + 1) hp1 (by rw [k2]; exact hr)
    have mo := rnd_more (p := p) (t := t) (h := h) (S := S) (mode := mode) (e := e) neg (N := r2) hp1 hr2
    rw [show e - 1 + ((d + 1 : Nat) : Int) = e + d by omega] at j
    exact ⟨j.1.trans mo.1, j.2.trans mo.2⟩

/-- One bit more of a root. -/
theorem isq_bit {A r i : Nat} (h2 : A < (r + 2 ^ (i + 1)) * (r + 2 ^ (i + 1))) :
    ((r + 2 ^ i) * (r + 2 ^ i) ≤ A → A < (r + 2 ^ i + 2 ^ i) * (r + 2 ^ i + 2 ^ i)) := by
  intro _
  rwa [show r + 2 ^ i + 2 ^ i = r + 2 ^ (i + 1) by rw [Nat.pow_succ]; omega]

/-- One step of the root of a word. -/
theorem root_step {T m rest b : Nat} (h1 : m * m + rest = T) (h2 : rest ≤ 2 * m) (hb : b ≤ 3) :
    (4 * rest + b < 4 * m + 1 → (2 * m) * (2 * m) + (4 * rest + b) = 4 * T + b ∧ 4 * rest + b ≤ 2 * (2 * m)) ∧
    (4 * m + 1 ≤ 4 * rest + b → (2 * m + 1) * (2 * m + 1) + (4 * rest + b - (4 * m + 1)) = 4 * T + b ∧ 4 * rest + b - (4 * m + 1) ≤ 2 * (2 * m + 1)) := by
  have e1 : 2 * m * (2 * m) = 4 * (m * m) := by grind
  have e2 : (2 * m + 1) * (2 * m + 1) = 4 * (m * m) + 4 * m + 1 := by grind
  rw [e1, e2]
  omega

theorem isq_ex : ∀ A : Nat, ∃ r, Isq A r
  | 0 => ⟨0, by decide, by decide⟩
  | A + 1 => by
    obtain ⟨r, h1, h2⟩ := isq_ex A
    by_cases h : (r + 1) * (r + 1) ≤ A + 1
    · refine ⟨r + 1, h, ?_⟩
      have : (r + 1 + 1) * (r + 1 + 1) = (r + 1) * (r + 1) + 2 * (r + 1) + 1 := by grind
      omega
    · exact ⟨r, by omega, by omega⟩

theorem isq_uniq {A r s : Nat} (h : Isq A r) (g : Isq A s) : r = s := by
  have h1 : r < s + 1 := sq_lt (Nat.lt_of_le_of_lt h.1 g.2)
  have h2 : s < r + 1 := sq_lt (Nat.lt_of_le_of_lt g.1 h.2)
  omega

theorem isq_of {T m rest : Nat} (h1 : m * m + rest = T) (h2 : rest ≤ 2 * m) : Isq T m := by
  have e : (m + 1) * (m + 1) = m * m + 2 * m + 1 := by grind
  unfold Isq
  rw [e]
  omega
end Go.Proofs.YtghblaphkbcgpaaDoor
