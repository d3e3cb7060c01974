/- Whole numbers as floats: sums, differences and products of them are exact while they are small. -/
import Derived.Test.YtlcfcdpgggocnaaF1
import Derived.Test.YtlcfcdpgggocnaaG5
namespace Go.Proofs.Ytlcfcdpgggocnaa
open Go.RowKit

/-- A magnitude with its sign. -/
def sg (s : Bool) (m : Nat) : Int := if s then -(m : Int) else m

/-- The bits stand for the whole number x. -/
def V (b : Nat) (x : Int) : Prop := ∃ s, b = Ieee.double.nearest s x.natAbs 0 ∧ sg s x.natAbs = x

theorem read_zero (s : Bool) : Ieee.double.read (Ieee.double.nearest s 0 0) = .number s 0 (-1074) := by
  cases s <;> decide +kernel

theorem V.read {b : Nat} {x : Int} (h : V b x) (hx : x.natAbs < 9007199254740992) : ∃ (s : Bool) (j : Nat), Ieee.double.read b = .number s (x.natAbs * 2 ^ j) (-(j : Int)) ∧ sg s x.natAbs = x := by
  obtain ⟨s, rfl, hs⟩ := h
  by_cases h0 : x.natAbs = 0
  · obtain ⟨q, hq⟩ : ∃ q : Nat, q = 1074 := ⟨_, rfl⟩
    refine ⟨s, q, ?_, hs⟩
    rw [h0, Nat.zero_mul, read_zero s, hq]
    rfl
  · obtain ⟨j, _, _, hr⟩ := read_nearest s x.natAbs 0 h0 hx (by omega) (by
      have := (Nat.log2_lt h0).2 (show x.natAbs < 2 ^ 53 by omega)
      omega)
    exact ⟨s, j, by rw [hr]; simp, hs⟩

theorem signed_scale (s : Bool) (m i k : Nat) (h : i ≤ k) : Ieee.signed s (m * 2 ^ i) (-(i : Int) - -(k : Int)).toNat = sg s m * 2 ^ k := by
  have e : (-(i : Int) - -(k : Int)).toNat = k - i := by omega
  have e2 : (m * 2 ^ i) <<< (k - i) = m * 2 ^ k := by
    rw [Nat.shiftLeft_eq, Nat.mul_assoc, ← Nat.pow_add]
    congr 2
    omega
  unfold Ieee.signed sg
  rw [e, e2]
  cases s <;> simp [Int.neg_mul]

theorem sg_abs (z : Int) (k : Nat) : (z * 2 ^ k).natAbs = z.natAbs * 2 ^ k := by
  rw [Int.natAbs_mul, Int.natAbs_pow]
  rfl

theorem lt_pow (z : Int) (k : Nat) : (z * 2 ^ k < 0) ↔ z < 0 := by
  have : (0 : Int) < 2 ^ k := Int.pow_pos (by decide)
  constructor
  · intro h
    by_cases hz : z < 0
    · exact hz
    · have := Int.mul_nonneg (show 0 ≤ z by omega) (Int.le_of_lt this)
      omega
  · intro h
    exact Int.mul_neg_of_neg_of_pos h this

theorem eq_pow (z : Int) (k : Nat) : (z * 2 ^ k = 0) ↔ z = 0 := by
  have : (0 : Int) < 2 ^ k := Int.pow_pos (by decide)
  constructor
  · intro h
    rcases Int.mul_eq_zero.1 h with h | h
    · exact h
    · omega
  · rintro rfl; simp

theorem V_of_total {z : Int} {k : Nat} {s : Bool} (hs : z ≠ 0 → s = decide (z < 0)) : V (Ieee.double.write (.number s (z * 2 ^ k).natAbs (-(k : Int)))) z := by
  refine ⟨s, ?_, ?_⟩
  · show Ieee.double.nearest s _ _ = _
    have := nearest_scale s z.natAbs k 0
    rw [sg_abs, ← this]
    simp
  · by_cases h : z = 0
    · subst h; simp [sg]
    · rw [hs h]
      unfold sg
      by_cases hz : z < 0
      · simp [hz]; omega
      · simp [hz]; omega

theorem V_add {a b : Nat} {x y : Int} (ha : V a x) (hb : V b y) (hx : x.natAbs < 9007199254740992) (hy : y.natAbs < 9007199254740992) : ∃ r, floatBits .add .f64 a b = some r ∧ V r (x + y) := by
  obtain ⟨s, i, hr, hs⟩ := ha.read hx
  obtain ⟨t, j, hr', ht⟩ := hb.read hy
  show ∃ r, ((Ieee.double.read a).sum (Ieee.double.read b)).map Ieee.double.write = some r ∧ _
  rw [hr, hr']
  simp only [Ieee.Datum.sum, Option.map_some]
  have hm : min (-(i : Int)) (-(j : Int)) = -((max i j : Nat) : Int) := by omega
  rw [hm, signed_scale s _ i _ (Nat.le_max_left _ _), signed_scale t _ j _ (Nat.le_max_right _ _), hs, ht, ← Int.add_mul]
  refine ⟨_, rfl, V_of_total fun h => ?_⟩
  rw [if_neg (fun e => h ((eq_pow _ _).1 e))]
  exact decide_eq_decide.2 (lt_pow _ _)

theorem sg_not (s : Bool) (m : Nat) : sg (!s) m = - sg s m := by cases s <;> simp [sg]

theorem V_sub {a b : Nat} {x y : Int} (ha : V a x) (hb : V b y) (hx : x.natAbs < 9007199254740992) (hy : y.natAbs < 9007199254740992) : ∃ r, floatBits .sub .f64 a b = some r ∧ V r (x - y) := by
  obtain ⟨s, i, hr, hs⟩ := ha.read hx
  obtain ⟨t, j, hr', ht⟩ := hb.read hy
  show ∃ r, ((Ieee.double.read a).sum (Ieee.double.read b).opposite).map Ieee.double.write = some r ∧ _
  rw [hr, hr']
  simp only [Ieee.Datum.opposite, Ieee.Datum.sum, Option.map_some]
  have hm : min (-(i : Int)) (-(j : Int)) = -((max i j : Nat) : Int) := by omega
  rw [hm, signed_scale s _ i _ (Nat.le_max_left _ _), signed_scale (!t) _ j _ (Nat.le_max_right _ _), sg_not, hs, ht, ← Int.add_mul, ← Int.sub_eq_add_neg]
  refine ⟨_, rfl, V_of_total fun h => ?_⟩
  rw [if_neg (fun e => h ((eq_pow _ _).1 e))]
  exact decide_eq_decide.2 (lt_pow _ _)

theorem sg_mul (s t : Bool) (m n : Nat) : sg (s ^^ t) (m * n) = sg s m * sg t n := by
  cases s <;> cases t <;> simp [sg, Int.neg_mul, Int.mul_neg]

theorem V_mul {a b : Nat} {x y : Int} (ha : V a x) (hb : V b y) (hx : x.natAbs < 9007199254740992) (hy : y.natAbs < 9007199254740992) : ∃ r, floatBits .mul .f64 a b = some r ∧ V r (x * y) := by
  obtain ⟨s, i, hr, hs⟩ := ha.read hx
  obtain ⟨t, j, hr', ht⟩ := hb.read hy
  show ∃ r, ((Ieee.double.read a).product (Ieee.double.read b)).map Ieee.double.write = some r ∧ _
  rw [hr, hr']
  simp only [Ieee.Datum.product, Option.map_some]
  refine ⟨_, rfl, s ^^ t, ?_, ?_⟩
  · show Ieee.double.nearest _ _ _ = _
    have := nearest_scale (s ^^ t) (x * y).natAbs (i + j) 0
    rw [← this, Int.natAbs_mul]
    congr 1
    · rw [Nat.pow_add]
      simp only [Nat.mul_assoc, Nat.mul_left_comm]
    · omega
  · rw [Int.natAbs_mul, sg_mul, hs, ht]

theorem cmp_pow (x y : Int) (k : Nat) : (compare (x * 2 ^ k) (y * 2 ^ k) == Ordering.eq) = decide (x = y) := by
  have h : (0 : Int) < 2 ^ k := Int.pow_pos (by decide)
  by_cases e : x = y
  · subst e; simp
  · have : x * 2 ^ k ≠ y * 2 ^ k := fun h' => e (Int.eq_of_mul_eq_mul_right (by omega) h')
    simp [e, this]

/-- Two that stand for whole numbers are equal just when these are. -/
theorem V_eq {a b : Nat} {x y : Int} (ha : V a x) (hb : V b y) (hx : x.natAbs < 9007199254740992) (hy : y.natAbs < 9007199254740992) : (FloatKind.f64.format.order a b == some .eq) = decide (x = y) := by
  obtain ⟨s, i, hr, hs⟩ := ha.read hx
  obtain ⟨t, j, hr', ht⟩ := hb.read hy
  show ((Ieee.double.read a).order (Ieee.double.read b) == some .eq) = _
  rw [hr, hr']
  simp only [Ieee.Datum.order]
  have hm : min (-(i : Int)) (-(j : Int)) = -((max i j : Nat) : Int) := by omega
  rw [hm, signed_scale s _ i _ (Nat.le_max_left _ _), signed_scale t _ j _ (Nat.le_max_right _ _), hs, ht, ← cmp_pow x y (max i j)]
  rfl

theorem V_not_nan {b : Nat} {x : Int} (h : V b x) (hx : x.natAbs < 9007199254740992) : cn b = some b := by
  obtain ⟨s, j, hr, _⟩ := h.read hx
  exact cn_some (by rw [hr]; rfl)

/-- What stands for a whole number, of what bits stand for. -/
def Vc (o : Option Nat) (x : Int) : Prop := ∃ b, o = some b ∧ V b x ∧ x.natAbs < 9007199254740992

theorem Vc.of_cn {b : Nat} {x : Int} (h : Vc (cn b) x) : V b x ∧ x.natAbs < 9007199254740992 := by
  obtain ⟨c, hc, hv, hx⟩ := h
  unfold cn at hc
  split at hc
  · cases hc
  · cases hc; exact ⟨hv, hx⟩

theorem Vc.cn {b : Nat} {x : Int} (h : V b x) (hx : x.natAbs < 9007199254740992) : Vc (cn b) x := ⟨b, V_not_nan h hx, h, hx⟩

theorem Vc.add {o p : Option Nat} {x y : Int} (ho : Vc o x) (hp : Vc p y) (h : (x + y).natAbs < 9007199254740992) : Vc (cop .add o p) (x + y) := by
  obtain ⟨a, rfl, ha, hx⟩ := ho
  obtain ⟨b, rfl, hb, hy⟩ := hp
  obtain ⟨r, hr, hv⟩ := V_add ha hb hx hy
  exact ⟨r, by simpa [cop] using hr, hv, h⟩

theorem Vc.sub {o p : Option Nat} {x y : Int} (ho : Vc o x) (hp : Vc p y) (h : (x - y).natAbs < 9007199254740992) : Vc (cop .sub o p) (x - y) := by
  obtain ⟨a, rfl, ha, hx⟩ := ho
  obtain ⟨b, rfl, hb, hy⟩ := hp
  obtain ⟨r, hr, hv⟩ := V_sub ha hb hx hy
  exact ⟨r, by simpa [cop] using hr, hv, h⟩

theorem Vc.mul {o p : Option Nat} {x y : Int} (ho : Vc o x) (hp : Vc p y) (h : (x * y).natAbs < 9007199254740992) : Vc (cop .mul o p) (x * y) := by
  obtain ⟨a, rfl, ha, hx⟩ := ho
  obtain ⟨b, rfl, hb, hy⟩ := hp
  obtain ⟨r, hr, hv⟩ := V_mul ha hb hx hy
  exact ⟨r, by simpa [cop] using hr, hv, h⟩
end Go.Proofs.Ytlcfcdpgggocnaa
