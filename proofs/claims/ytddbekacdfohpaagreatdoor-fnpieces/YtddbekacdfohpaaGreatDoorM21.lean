/- BD FQ. -/
import Derived.Test.YtddbekacdfohpaaGreatDoorM13
import Derived.Test.YtddbekacdfohpaaGreatDoorM01
namespace Go.Proofs.YtddbekacdfohpaaGreatDoor
open Go.RowKit

/-- Below 2^64. -/
def Lt64 (x : Option Nat) : Prop := ∀ b, x = some b → b < 18446744073709551616

theorem word_lt (s : Bool) (k : Nat) (h : k ≤ Ieee.double.infRung) : Ieee.double.word s k < 18446744073709551616 := by
  have e1 : Ieee.double.signWeight = 9223372036854775808 := by decide
  have e2 : Ieee.double.infRung = 9218868437227405312 := by decide
  rw [e2] at h
  unfold Ieee.Format.word
  rw [e1]
  split <;> omega

theorem write_lt (d : Ieee.Datum) (h : d.isNaN = false) : Ieee.double.write d < 18446744073709551616 := by
  cases d with
  | number s m e =>
    simp only [Ieee.Format.write, Ieee.Format.nearest]
    split
    · exact word_lt _ _ (Nat.zero_le _)
    · exact word_lt _ _ (Nat.min_le_right _ _)
  | infinity s => exact word_lt _ _ (Nat.le_refl _)
  | nan s f => simp [Ieee.Datum.isNaN] at h

theorem bits_lt {op : BinOp} {x y r : Nat} (h : floatBits op .f64 x y = some r) : r < 18446744073709551616 := by
  unfold floatBits at h
  split at h
  · obtain ⟨d, hd, rfl⟩ := map_some h
    exact write_lt _ (sum_not_nan hd).2.2
  · obtain ⟨d, hd, rfl⟩ := map_some h
    exact write_lt _ (sum_not_nan hd).2.2
  · obtain ⟨d, hd, rfl⟩ := map_some h
    exact write_lt _ (product_not_nan hd).2.2
  · obtain ⟨d, hd, rfl⟩ := map_some h
    exact write_lt _ (quotient_not_nan hd).2.2
  · cases h

theorem cop_lt (op : BinOp) (x y : Option Nat) : Lt64 (cop op x y) := by
  intro b h
  unfold cop at h
  cases x with
  | none => cases h
  | some a =>
    cases y with
    | none => cases h
    | some c => exact bits_lt h

theorem cn_lt {b : Nat} (h : b < 18446744073709551616) : Lt64 (cn b) := by
  intro c hc
  unfold cn at hc
  split at hc
  · cases hc
  · cases hc; exact h

def Bd (x : Nat) : Prop := cn x = none ∨ x < 18446744073709551616

theorem bd_cn {x : Nat} {o : Option Nat} (h : cn x = o) (ho : Lt64 o) : Bd x := by
  cases o with
  | none => exact .inl h
  | some b =>
    right
    unfold cn at h
    split at h
    · cases h
    · cases h; exact ho _ rfl

theorem bd_fres (op : BinOp) (w : World) (x y : Nat) : Bd (fres op w x y) := bd_cn (cn_fres op w x y) (cop_lt op _ _)

theorem bd_int (n : Int) : Bd (floatOfInt .f64 n) := .inr (write_lt (.number (n < 0) n.natAbs 0) rfl)

end Go.Proofs.YtddbekacdfohpaaGreatDoor

namespace Go.Proofs.YtddbekacdfohpaaGreatDoor
open Go.RowKit

/-- The sign bit is not there. -/
def Nn (x : Option Nat) : Prop := ∀ b, x = some b → b < 9223372036854775808

theorem word_nn {k : Nat} (h : k ≤ Ieee.double.infRung) : Ieee.double.word false k < 9223372036854775808 := by
  have e2 : Ieee.double.infRung = 9218868437227405312 := by decide
  rw [e2] at h
  have e1 : Ieee.double.word false k = k := by simp [Ieee.Format.word]
  rw [e1]
  omega

theorem nearest_nn (m : Nat) (p : Int) : Ieee.double.nearest false m p < 9223372036854775808 := by
  simp only [Ieee.Format.nearest]
  split
  · exact word_nn (Nat.zero_le _)
  · exact word_nn (Nat.min_le_right _ _)

theorem nn_mul (a : Option Nat) : Nn (cop .mul a a) := by
  intro b h
  cases a with
  | none => cases h
  | some x =>
    have h' : ((Ieee.double.read x).product (Ieee.double.read x)).map Ieee.double.write = some b := h
    cases hr : Ieee.double.read x with
    | number s m p =>
      rw [hr] at h'
      simp only [Ieee.Datum.product, Option.map_some, Bool.xor_self, Ieee.Format.write] at h'
      obtain rfl := Option.some.inj h'
      exact nearest_nn _ _
    | infinity s =>
      rw [hr] at h'
      simp only [Ieee.Datum.product, Option.map_some, Bool.xor_self, Ieee.Format.write] at h'
      obtain rfl := Option.some.inj h'
      exact word_nn (Nat.le_refl _)
    | nan s f => rw [hr] at h'; cases h'

/-- What such a word stands for. -/
theorem pos_cases {b : Nat} (h : b < 9223372036854775808) (hn : (Ieee.double.read b).isNaN = false) :
    (Ieee.double.read b = .infinity false ∧ b = Ieee.double.word false Ieee.double.infRung) ∨ ∃ (m : Nat) (p : Int), Ieee.double.read b = .number false m p ∧ m < 9007199254740992 ∧ -1074 ≤ p := by
  have ht : ∀ k, Ieee.double.word true k = 9223372036854775808 + k := fun k => by
    have e1 : Ieee.double.signWeight = 9223372036854775808 := by decide
    simp [Ieee.Format.word, e1]
  rcases read_cases b (by omega) with h1 | ⟨s, h1, h2⟩ | ⟨s, h1, h2⟩ | ⟨s, m, d, _, _, _, h3, _, h1, h2⟩ | ⟨s, m, e, _, _, h3, h1, h2⟩
  · rw [hn] at h1; cases h1
  · cases s
    · exact .inl ⟨h1, h2⟩
    · rw [ht] at h2; omega
  · cases s
    · exact .inr ⟨0, -1074, h1, by omega, by omega⟩
    · rw [ht] at h2; omega
  · cases s
    · exact .inr ⟨m, _, h1, h3, by omega⟩
    · rw [ht] at h2; omega
  · cases s
    · exact .inr ⟨m, _, h1, h3, by omega⟩
    · rw [ht] at h2; omega

theorem sum_nn (m k : Nat) (p q : Int) : ∃ (M : Nat) (P : Int), (Ieee.Datum.number false m p).sum (.number false k q) = some (.number false M P) := by
  simp only [Ieee.Datum.sum, Ieee.signed, Bool.false_eq_true, if_false, Bool.and_self]
  generalize hA : m <<< (p - min p q).toNat = A
  generalize hB : k <<< (q - min p q).toNat = B
  have e : (if (A : Int) + (B : Int) = 0 then false else decide ((A : Int) + (B : Int) < 0)) = false := by
    split
    · rfl
    · rw [decide_eq_false (by omega)]
  rw [e]
  exact ⟨_, _, rfl⟩

theorem nn_add {x y : Option Nat} (hx : Nn x) (hy : Nn y) : Nn (cop .add x y) := by
  intro b h
  cases x with
  | none => cases h
  | some u =>
    cases y with
    | none => cases h
    | some v =>
      have h0 : floatBits .add .f64 u v = some b := h
      obtain ⟨n1, n2, _⟩ := bits_not_nan h0
      have h' : ((Ieee.double.read u).sum (Ieee.double.read v)).map Ieee.double.write = some b := h
      rcases pos_cases (hx u rfl) n1 with ⟨r1, _⟩ | ⟨m, p, r1, _, _⟩ <;> rcases pos_cases (hy v rfl) n2 with ⟨r2, _⟩ | ⟨k, q, r2, _, _⟩
      · rw [r1, r2] at h'
        simp only [Ieee.Datum.sum, if_true, Option.map_some, Ieee.Format.write] at h'
        obtain rfl := Option.some.inj h'
        exact word_nn (Nat.le_refl _)
      · rw [r1, r2] at h'
        simp only [Ieee.Datum.sum, Option.map_some, Ieee.Format.write] at h'
        obtain rfl := Option.some.inj h'
        exact word_nn (Nat.le_refl _)
      · rw [r1, r2] at h'
        simp only [Ieee.Datum.sum, Option.map_some, Ieee.Format.write] at h'
        obtain rfl := Option.some.inj h'
        exact word_nn (Nat.le_refl _)
      · obtain ⟨M, P, hs⟩ := sum_nn m k p q
        rw [r1, r2, hs] at h'
        simp only [Option.map_some, Ieee.Format.write] at h'
        obtain rfl := Option.some.inj h'
        exact nearest_nn _ _

theorem read_nought : Ieee.double.read 0 = .number false 0 (-1074) := by decide +kernel
theorem read_one : Ieee.double.read 4607182418800017408 = .number false 4503599627370496 (-52) := by decide +kernel

/-- 0 and a number. -/
theorem add_nought {b : Nat} (h : b < 9223372036854775808) (hn : (Ieee.double.read b).isNaN = false) : floatBits .add .f64 0 b = some b := by
  show ((Ieee.double.read 0).sum (Ieee.double.read b)).map Ieee.double.write = _
  rw [read_nought]
  rcases pos_cases h hn with ⟨r, hb⟩ | ⟨m, p, r, hm, hp⟩
  · rw [r]
    simp only [Ieee.Datum.sum, Option.map_some, Ieee.Format.write]
    rw [← hb]
  · have hw := write_read (by omega) r
    rw [r]
    have hmin : min (-1074) p = -1074 := by omega
    simp only [Ieee.Datum.sum, Ieee.signed, Bool.false_eq_true, if_false, Bool.and_self, hmin, Option.map_some, Ieee.Format.write]
    rw [Nat.shiftLeft_eq, Nat.shiftLeft_eq, Nat.zero_mul]
    have e1 : ((0 : Nat) : Int) + ((m * 2 ^ (p - -1074).toNat : Nat) : Int) = ((m * 2 ^ (p - -1074).toNat : Nat) : Int) := by omega
    rw [e1]
    have e2 : (if ((m * 2 ^ (p - -1074).toNat : Nat) : Int) = 0 then false else decide (((m * 2 ^ (p - -1074).toNat : Nat) : Int) < 0)) = false := by
      split
      · rfl
      · rw [decide_eq_false (by omega)]
    rw [e2, Int.natAbs_natCast]
    have e3 : (-1074 : Int) = p - ((p - -1074).toNat : Int) := by omega
    rw [congrArg (Ieee.double.nearest false (m * 2 ^ (p - -1074).toNat)) e3, nearest_scale, hw]

/-- A number by 1. -/
theorem quo_by_one {b : Nat} (h : b < 9223372036854775808) (hn : (Ieee.double.read b).isNaN = false) : floatBits .quo .f64 b 4607182418800017408 = some b := by
  show ((Ieee.double.read b).quotient 54 (Ieee.double.read 4607182418800017408)).map Ieee.double.write = _
  rw [read_one]
  rcases pos_cases h hn with ⟨r, hb⟩ | ⟨m, p, r, hm, hp⟩
  · rw [r]
    simp only [Ieee.Datum.quotient, Option.map_some, Ieee.Format.write, Bool.xor_false]
    rw [← hb]
  · have hw := write_read (by omega) r
    rw [r]
    have hL : m.log2 ≤ 52 := by
      by_cases h0 : m = 0
      · subst h0; decide
      · have := (Nat.log2_lt h0).2 (show m < 2 ^ 53 by omega)
        omega
    simp only [Ieee.Datum.quotient, Bool.xor_false]
    rw [if_neg (by decide)]
    simp only [Option.map_some, Ieee.Format.write]
    have l52 : Nat.log2 4503599627370496 = 52 := by decide +kernel
    rw [l52]
    obtain ⟨u, hu⟩ : ∃ u, 54 + 52 - m.log2 = 52 + u := ⟨54 - m.log2, by omega⟩
    rw [hu, Nat.shiftLeft_eq]
    have e1 : m * 2 ^ (52 + u) = m * 2 ^ u * 4503599627370496 := by
      rw [Nat.add_comm, Nat.pow_add, ← Nat.mul_assoc]
    rw [e1, Nat.mul_div_cancel _ (by decide), Nat.mul_mod_left]
    have e2 : 2 * (m * 2 ^ u) + ((0 : Nat) != 0).toNat = m * 2 ^ (u + 1) := by
      rw [Nat.pow_add, Nat.pow_one]
      show 2 * (m * 2 ^ u) + 0 = _
      rw [Nat.add_zero]
      ac_rfl
    have e3 : p - -52 - ((52 + u : Nat) : Int) - 1 = p - ((u + 1 : Nat) : Int) := by omega
    rw [e2, e3, nearest_scale, hw]

/-- The mean of one power. -/
theorem mean_one (a b : Option Nat) : cop .quo (cop .add (cn 0) (cpw a b)) (cn (floatOfInt .f64 ((1 : Nat) : Int))) = cpw a b := by
  have hz : Nn (cpw a b) := nn_add (nn_mul a) (nn_mul b)
  have hnan : ∀ c, cpw a b = some c → (Ieee.double.read c).isNaN = false := by
    intro c hc
    unfold cpw at hc
    generalize cop .mul a a = x at hc
    generalize cop .mul b b = y at hc
    cases x with
    | none => cases hc
    | some x =>
      cases y with
      | none => cases hc
      | some y => exact (bits_not_nan (op := .add) (x := x) (y := y) hc).2.2
  have c0 : cn 0 = some 0 := by decide +kernel
  have c1 : cn (floatOfInt .f64 ((1 : Nat) : Int)) = some 4607182418800017408 := by decide +kernel
  rw [c0, c1]
  generalize cpw a b = z at *
  cases z with
  | none => rfl
  | some c =>
    have h1 := add_nought (hz c rfl) (hnan c rfl)
    have h2 := quo_by_one (hz c rfl) (hnan c rfl)
    show (floatBits .add .f64 0 c).bind (fun u => floatBits .quo .f64 u 4607182418800017408) = some c
    rw [h1]
    exact h2

end Go.Proofs.YtddbekacdfohpaaGreatDoor
