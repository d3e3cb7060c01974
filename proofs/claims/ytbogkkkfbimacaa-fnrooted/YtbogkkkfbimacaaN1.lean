/- Powers of small pairs of whole numbers. -/
import Derived.Test.YtbogkkkfbimacaaV1
import Derived.Test.YtbogkkkfbimacaaW1
namespace Go.Proofs.Ytbogkkkfbimacaa
open Go.RowKit

/-- A product's parts, of whole numbers. -/
def ire (a b c d : Int) : Int := a * c - b * d
def iim (a b c d : Int) : Int := a * d + b * c

/-- The power by halving, of whole numbers. -/
def ipw : Nat → Nat → Int → Int → Int → Int → Int × Int
  | 0, _, r1, r2, _, _ => (r1, r2)
  | f + 1, n, r1, r2, s1, s2 =>
    if n = 0 then (r1, r2)
    else if n % 2 = 1 then ipw f (n / 2) (ire r1 r2 s1 s2) (iim r1 r2 s1 s2) (ire s1 s2 s1 s2) (iim s1 s2 s1 s2)
    else ipw f (n / 2) r1 r2 (ire s1 s2 s1 s2) (iim s1 s2 s1 s2)

/-- All products on the way are small. -/
def sml (a b c d : Int) : Bool := decide ((a * c).natAbs < 4503599627370496) && decide ((b * d).natAbs < 4503599627370496) && decide ((a * d).natAbs < 4503599627370496) && decide ((b * c).natAbs < 4503599627370496)
def iok : Nat → Nat → Int → Int → Int → Int → Bool
  | 0, n, _, _, _, _ => n == 0
  | f + 1, n, r1, r2, s1, s2 =>
    if n = 0 then true
    else sml s1 s2 s1 s2 && (if n % 2 = 1 then sml r1 r2 s1 s2 && iok f (n / 2) (ire r1 r2 s1 s2) (iim r1 r2 s1 s2) (ire s1 s2 s1 s2) (iim s1 s2 s1 s2)
    else iok f (n / 2) r1 r2 (ire s1 s2 s1 s2) (iim s1 s2 s1 s2))

theorem Vc.prod {A B C D : Option Nat} {a b c d : Int} (ha : Vc A a) (hb : Vc B b) (hc : Vc C c) (hd : Vc D d) (h : sml a b c d = true) : Vc (cre A B C D) (ire a b c d) ∧ Vc (cim A B C D) (iim a b c d) := by
  unfold sml at h
  simp only [Bool.and_eq_true, decide_eq_true_eq] at h
  obtain ⟨⟨⟨h1, h2⟩, h3⟩, h4⟩ := h
  constructor
  · exact Vc.sub (Vc.mul ha hc (by omega)) (Vc.mul hb hd (by omega)) (by omega)
  · exact Vc.add (Vc.mul ha hd (by omega)) (Vc.mul hb hc (by omega)) (by omega)

theorem Vpow : ∀ (f n : Nat) (R1 R2 S1 S2 : Option Nat) (r1 r2 s1 s2 : Int), Vc R1 r1 → Vc R2 r2 → Vc S1 s1 → Vc S2 s2 → iok f n r1 r2 s1 s2 = true →
    Vc (cpw2 n R1 R2 S1 S2).1 (ipw f n r1 r2 s1 s2).1 ∧ Vc (cpw2 n R1 R2 S1 S2).2 (ipw f n r1 r2 s1 s2).2
  | 0, n, R1, R2, S1, S2, r1, r2, s1, s2, h1, h2, h3, h4, h => by
    have hn : n = 0 := by simpa [iok] using h
    subst hn
    rw [cpw2_zero]
    exact ⟨h1, h2⟩
  | f + 1, n, R1, R2, S1, S2, r1, r2, s1, s2, h1, h2, h3, h4, h => by
    unfold iok at h
    unfold ipw
    by_cases hn : n = 0
    · subst hn
      rw [cpw2_zero, if_pos rfl]
      exact ⟨h1, h2⟩
    · rw [if_neg hn] at h ⊢
      simp only [Bool.and_eq_true] at h
      obtain ⟨hs, h⟩ := h
      obtain ⟨q1, q2⟩ := Vc.prod h3 h4 h3 h4 hs
      by_cases ho : n % 2 = 1
      · rw [if_pos ho] at h ⊢
        simp only [Bool.and_eq_true] at h
        obtain ⟨p1, p2⟩ := Vc.prod h1 h2 h3 h4 h.1
        rw [cpw2_odd ho]
        exact Vpow f _ _ _ _ _ _ _ _ _ p1 p2 q1 q2 h.2
      · rw [if_neg ho] at h ⊢
        rw [cpw2_even (by omega) (by omega)]
        exact Vpow f _ _ _ _ _ _ _ _ _ h1 h2 q1 q2 h

/-- The small ones. -/
def five : List Int := [-2, -1, 0, 1, 2]
theorem mem_five {x : Int} (h : -2 ≤ x ∧ x ≤ 2) : x ∈ five := by
  have : x = -2 ∨ x = -1 ∨ x = 0 ∨ x = 1 ∨ x = 2 := by omega
  simpa [five] using this

def ic (a b : Int) (k : Nat) : Int × Int := ipw 5 k 1 0 a b
def ipz (p : Int) : Nat → Int
  | 0 => 1
  | k + 1 => ipz p k * p

set_option maxHeartbeats 4000000 in
theorem ok_all : (five.all fun a => five.all fun b => (List.range 17).all fun k => iok 5 k 1 0 a b) = true := by decide +kernel
set_option maxHeartbeats 4000000 in
theorem norm_all : (five.all fun a => five.all fun b => (List.range 17).all fun k => decide ((ic a b k).1 * (ic a b k).1 + (ic a b k).2 * (ic a b k).2 = ipz (a * a + b * b) k) && sml (ic a b k).1 (ic a b k).2 (ic a b k).1 (ic a b k).2 && decide ((ipz (a * a + b * b) k).natAbs < 4503599627370496)) = true := by decide +kernel
set_option maxHeartbeats 4000000 in
theorem mul_all : (five.all fun a => five.all fun b => (List.range 9).all fun m => (List.range 9).all fun n => sml (ic a b m).1 (ic a b m).2 (ic a b n).1 (ic a b n).2 && decide (ic a b (m + n) = (ire (ic a b m).1 (ic a b m).2 (ic a b n).1 (ic a b n).2, iim (ic a b m).1 (ic a b m).2 (ic a b n).1 (ic a b n).2))) = true := by decide +kernel
end Go.Proofs.Ytbogkkkfbimacaa
