/- FnDivided: the walk. -/
import Derived.Test.YtbogkkkfbimacaaN2
import Derived.Test.YtbogkkkfbimacaaP7
namespace Go.Proofs.Ytbogkkkfbimacaa
open Go.RowKit

def dens : List Nat := [1, 2, 4, 8]
set_option maxHeartbeats 4000000 in
theorem quo_all : ((List.range 156).all fun m => dens.all fun d => [false, true].all fun s => floatBits .quo .f64 (Ieee.double.nearest s (m * d) 0) (Ieee.double.nearest false d 0) == some (Ieee.double.nearest s m 0)) = true := by decide +kernel

theorem Vc.quo {A D : Option Nat} {x : Int} {d : Nat} (hA : Vc A (x * d)) (hD : Vc D d) (hd : d ∈ dens) (hx : -155 ≤ x ∧ x ≤ 155) : Vc (cop .quo A D) x := by
  obtain ⟨a, rfl, ⟨s, rfl, hs⟩, _⟩ := hA
  obtain ⟨b, rfl, ⟨t, rfl, ht⟩, _⟩ := hD
  have hd0 : 0 < d := by
    have : d = 1 ∨ d = 2 ∨ d = 4 ∨ d = 8 := by simpa [dens] using hd
    omega
  have hh := List.all_eq_true.1 (List.all_eq_true.1 (List.all_eq_true.1 quo_all x.natAbs (by simp; omega)) d hd) s (by cases s <;> simp)
  simp only [beq_iff_eq] at hh
  have et : t = false := by
    cases t with
    | false => rfl
    | true => simp [sg] at ht; omega
  have ed : ((d : Int)).natAbs = d := by simp
  have ex : (x * (d : Int)).natAbs = x.natAbs * d := by rw [Int.natAbs_mul, ed]
  refine ⟨Ieee.double.nearest s x.natAbs 0, ?_, ⟨s, rfl, ?_⟩, by omega⟩
  · simp only [cop, Option.bind_some]
    rw [et, ed, ex]
    exact hh
  · rw [ex] at hs
    have h2 : sg s x.natAbs * (d : Int) = x * d := by
      rw [← hs]
      cases s <;> simp [sg, Int.neg_mul]
    exact Int.eq_of_mul_eq_mul_right (by omega) h2

theorem ngV_all : (five.all fun y => [false, true].all fun s => ng (Ieee.double.nearest s y.natAbs 0) == Ieee.double.nearest (!s) y.natAbs 0) = true := by decide +kernel

theorem ngV {b : Nat} {y : Int} (hy : -2 ≤ y ∧ y ≤ 2) (h : V b y) : Vc (cn (ng b)) (-y) := by
  obtain ⟨s, rfl, hs⟩ := h
  have hh := List.all_eq_true.1 (List.all_eq_true.1 ngV_all y (mem_five hy)) s (by cases s <;> simp)
  simp only [beq_iff_eq] at hh
  rw [hh]
  refine Vc.cn ⟨!s, by rw [Int.natAbs_neg], ?_⟩ (by omega)
  rw [Int.natAbs_neg, sg_not, hs]

theorem ints_div {a c x y : Int} : (a * x - c * y) * x - (a * y + c * x) * -y = a * (x * x + y * y) ∧ (a * x - c * y) * -y + (a * y + c * x) * x = c * (x * x + y * y) := by
  constructor
  · simp only [Int.mul_sub, Int.mul_add, Int.mul_neg, Int.mul_comm, Int.mul_left_comm]
    omega
  · simp only [Int.mul_sub, Int.mul_add, Int.mul_neg, Int.mul_comm, Int.mul_left_comm]
    omega

/-- The pairs that are kept. -/
def good (x y : Int) : Prop := x * x + y * y = 1 ∨ x * x + y * y = 2 ∨ x * x + y * y = 4 ∨ x * x + y * y = 8

theorem mul_le {a x : Int} {B : Nat} (ha : a.natAbs ≤ B) (hx : -2 ≤ x ∧ x ≤ 2) : (a * x).natAbs ≤ 2 * B := by
  have : x = -2 ∨ x = -1 ∨ x = 0 ∨ x = 1 ∨ x = 2 := by omega
  rcases this with rfl | rfl | rfl | rfl | rfl <;> omega

theorem divV {a c x y : Int} {p1 p2 q1 q2 : Nat} (hx : -2 ≤ x ∧ x ≤ 2) (hy : -2 ≤ y ∧ y ≤ 2) (hg : good x y) (ha : -155 ≤ a ∧ a ≤ 155) (hc : -155 ≤ c ∧ c ≤ 155)
    (ep1 : cn p1 = cre (cn (fk a)) (cn (fk c)) (cn (fk x)) (cn (fk y))) (ep2 : cn p2 = cim (cn (fk a)) (cn (fk c)) (cn (fk x)) (cn (fk y)))
    (eq1 : cn q1 = cop .quo (cre (cn p1) (cn p2) (cn (fk x)) (cn (ng (fk y)))) (cpw (cn (fk x)) (cn (fk y)))) (eq2 : cn q2 = cop .quo (cim (cn p1) (cn p2) (cn (fk x)) (cn (ng (fk y)))) (cpw (cn (fk x)) (cn (fk y)))) :
    eqb q1 (fk a) = true ∧ eqb q2 (fk c) = true := by
  have va : Vc (cn (fk a)) a := Vfk (by omega)
  have vc : Vc (cn (fk c)) c := Vfk (by omega)
  have vx : Vc (cn (fk x)) x := Vfk (by omega)
  have vy : Vc (cn (fk y)) y := Vfk (by omega)
  have vn : Vc (cn (ng (fk y))) (-y) := ngV hy (fk_V y)
  have b1 := mul_le (B := 155) (show a.natAbs ≤ 155 by omega) hx
  have b2 := mul_le (B := 155) (show c.natAbs ≤ 155 by omega) hy
  have b3 := mul_le (B := 155) (show a.natAbs ≤ 155 by omega) hy
  have b4 := mul_le (B := 155) (show c.natAbs ≤ 155 by omega) hx
  have s1 : sml a c x y = true := by unfold sml; simp only [Bool.and_eq_true, decide_eq_true_eq]; omega
  obtain ⟨v1, v2⟩ := Vc.prod va vc vx vy s1
  rw [← ep1] at v1
  rw [← ep2] at v2
  have c1 : (ire a c x y).natAbs ≤ 620 := by unfold ire; omega
  have c2 : (iim a c x y).natAbs ≤ 620 := by unfold iim; omega
  have d1 := mul_le c1 hx
  have d2 := mul_le c2 (show -2 ≤ -y ∧ -y ≤ 2 by omega)
  have d3 := mul_le c1 (show -2 ≤ -y ∧ -y ≤ 2 by omega)
  have d4 := mul_le c2 hx
  have s2 : sml (ire a c x y) (iim a c x y) x (-y) = true := by unfold sml; simp only [Bool.and_eq_true, decide_eq_true_eq]; omega
  obtain ⟨u1, u2⟩ := Vc.prod v1 v2 vx vn s2
  have e1 : ire (ire a c x y) (iim a c x y) x (-y) = a * (x * x + y * y) := ints_div.1
  have e2 : iim (ire a c x y) (iim a c x y) x (-y) = c * (x * x + y * y) := ints_div.2
  rw [e1] at u1
  rw [e2] at u2
  have vd : Vc (cpw (cn (fk x)) (cn (fk y))) (x * x + y * y) := by
    have m1 := mul_le (B := 2) (show x.natAbs ≤ 2 by omega) hx
    have m2 := mul_le (B := 2) (show y.natAbs ≤ 2 by omega) hy
    exact Vc.add (Vc.mul vx vx (by omega)) (Vc.mul vy vy (by omega)) (by omega)
  obtain ⟨d, hd, hdm⟩ : ∃ d : Nat, x * x + y * y = d ∧ d ∈ dens := by
    rcases hg with h | h | h | h
    · exact ⟨1, h, by simp [dens]⟩
    · exact ⟨2, h, by simp [dens]⟩
    · exact ⟨4, h, by simp [dens]⟩
    · exact ⟨8, h, by simp [dens]⟩
  rw [hd] at u1 u2 vd
  have r1 := Vc.quo u1 vd hdm ha
  have r2 := Vc.quo u2 vd hdm hc
  rw [← eq1] at r1
  rw [← eq2] at r2
  exact ⟨eqV r1 va, eqV r2 vc⟩

theorem V_num {c : Nat} {z : Int} (h : V c z) (hz : z.natAbs < 100) {b : Nat} {x : Int} (hb : Vc (cn b) x) : (FloatKind.f64.format.order b c != some .eq) = !decide (x = z) := by
  obtain ⟨v1, s1⟩ := hb.of_cn
  unfold bne
  rw [V_eq v1 h s1 (by omega)]

theorem V1' : V 4607182418800017408 1 := ⟨false, by decide +kernel, rfl⟩
theorem V2' : V 4611686018427387904 2 := ⟨false, by decide +kernel, rfl⟩
theorem V4' : V 4616189618054758400 4 := ⟨false, by decide +kernel, rfl⟩
theorem V8' : V 4620693217682128896 8 := ⟨false, by decide +kernel, rfl⟩
theorem fk_one : fk 1 = 4607182418800017408 := by decide +kernel

end Go.Proofs.Ytbogkkkfbimacaa
