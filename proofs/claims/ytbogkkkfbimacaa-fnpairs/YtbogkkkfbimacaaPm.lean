/- Pairs exchanged, and with the sign of Im turned: what floats make of them. -/
import Derived.Test.YtbogkkkfbimacaaV1
import Derived.Test.YtbogkkkfbimacaaG6
import Derived.Test.YtbogkkkfbimacaaP3
import Derived.Test.YtbogkkkfbimacaaE1
namespace Go.Proofs.Ytbogkkkfbimacaa
open Go.RowKit

theorem product_comm (a b : Ieee.Datum) : a.product b = b.product a := by
  cases a <;> cases b <;> simp [Ieee.Datum.product, Bool.xor_comm, Nat.mul_comm, Int.add_comm]

theorem sum_comm (a b : Ieee.Datum) : a.sum b = b.sum a := by
  cases a with
  | nan s f => cases b <;> rfl
  | infinity s =>
    cases b with
    | nan t f => rfl
    | infinity t =>
      simp only [Ieee.Datum.sum]
      by_cases h : s = t
      · subst h; rfl
      · rw [if_neg h, if_neg (fun e => h e.symm)]
    | number t m e => rfl
  | number s m i =>
    cases b with
    | nan t f => rfl
    | infinity t => rfl
    | number t n j =>
      simp only [Ieee.Datum.sum]
      rw [Int.min_comm i j, Int.add_comm (Ieee.signed s m _), Bool.and_comm s t]

theorem cmul_comm (x y : Option Nat) : cop .mul x y = cop .mul y x := by
  cases x <;> cases y <;> simp [cop, floatBits, Ieee.Format.mul, product_comm]

theorem cadd_comm (x y : Option Nat) : cop .add x y = cop .add y x := by
  cases x <;> cases y <;> simp [cop, floatBits, Ieee.Format.add, sum_comm]

theorem cre_comm (a b c d : Option Nat) : cre a b c d = cre c d a b := by
  unfold cre
  rw [cmul_comm a c, cmul_comm b d]

theorem cim_comm (a b c d : Option Nat) : cim a b c d = cim c d a b := by
  unfold cim
  rw [cmul_comm a d, cmul_comm b c, cadd_comm]

theorem ng_low {k : Nat} (h : k < 9223372036854775808) : ng k = 9223372036854775808 + k := xor_sign h
theorem ng_high {k : Nat} (h : k < 9223372036854775808) : ng (9223372036854775808 + k) = k := by
  have e := xor_sign h
  show (9223372036854775808 + k) ^^^ 9223372036854775808 = k
  rw [← e, Nat.xor_assoc, Nat.xor_self, Nat.xor_zero]

theorem read_ng (x : Nat) : Ieee.double.read (ng x) = (Ieee.double.read x).opposite := by
  have e1 : Ieee.double.signWeight = 9223372036854775808 := by decide
  have p63 : (9223372036854775808 : Nat) = 2 ^ 63 := by decide
  have a1 : ng x % 9223372036854775808 = x % 9223372036854775808 := by
    show (x ^^^ 9223372036854775808) % 9223372036854775808 = _
    rw [p63, Nat.xor_mod_two_pow]
    simp
  have a2 : ng x / 9223372036854775808 % 2 = 1 - x / 9223372036854775808 % 2 := by
    show (x ^^^ 9223372036854775808) / 9223372036854775808 % 2 = _
    rw [p63, Nat.xor_div_two_pow]
    have : (x / 2 ^ 63 ^^^ 2 ^ 63 / 2 ^ 63) % 2 = (x / 2 ^ 63 % 2) ^^^ 1 := by
      have h := Nat.xor_mod_two_pow (a := x / 2 ^ 63) (b := 2 ^ 63 / 2 ^ 63) (n := 1)
      simpa using h
    rw [this]
    rcases Nat.mod_two_eq_zero_or_one (x / 2 ^ 63) with h | h <;> rw [h] <;> decide
  unfold Ieee.Format.read
  simp only [e1, a1, a2]
  rcases Nat.mod_two_eq_zero_or_one (x / 9223372036854775808) with h | h
  all_goals
    simp only [h]
    repeat' split
    all_goals simp_all [Ieee.Datum.opposite]

theorem write_neg (d : Ieee.Datum) (h : d.isNaN = false) : Ieee.double.write d.opposite = ng (Ieee.double.write d) := by
  cases d with
  | nan s f => simp [Ieee.Datum.isNaN] at h
  | infinity s => cases s <;> decide +kernel
  | number s m e =>
    cases s with
    | false => exact (nearest_neg m e).symm
    | true =>
      show Ieee.double.nearest false m e = ng (Ieee.double.nearest true m e)
      rw [← nearest_neg m e]
      show _ = (Ieee.double.nearest false m e ^^^ 9223372036854775808) ^^^ 9223372036854775808
      rw [Nat.xor_assoc, Nat.xor_self, Nat.xor_zero]

theorem product_neg2 (a b : Ieee.Datum) : a.opposite.product b.opposite = a.product b := by
  cases a <;> cases b <;> simp [Ieee.Datum.product, Ieee.Datum.opposite]

theorem product_negr (a b : Ieee.Datum) : a.product b.opposite = (a.product b).map Ieee.Datum.opposite := by
  cases a <;> cases b <;> simp only [Ieee.Datum.product, Ieee.Datum.opposite, Option.map_some, Option.map_none]
  all_goals first
    | (split <;> simp [Ieee.Datum.opposite]; done)
    | (simp; done)

/-- Bits with their sign turned. -/
def cneg (x : Option Nat) : Option Nat := x.map ng

/-- Below 2^64. -/
def Lt64 (x : Option Nat) : Prop := ∀ b, x = some b → b < 18446744073709551616

theorem word_lt (s : Bool) (k : Nat) (h : k ≤ Ieee.double.infRung) : Ieee.double.word s k < 18446744073709551616 := by
  have e1 : Ieee.double.signWeight = 9223372036854775808 := by decide
  have e2 : Ieee.double.infRung = 9218868437227405312 := by decide
  rw [e2] at h
  unfold Ieee.Format.word
  rw [e1]
  split <;> omega

theorem write_lt (d : Ieee.Datum) (h : d.isNaN = false) : Ieee.double.write d < 18446744073709551616 := by
  cases d with
  | number s m e =>
    simp only [Ieee.Format.write, Ieee.Format.nearest]
    split
    · exact word_lt _ _ (Nat.zero_le _)
    · exact word_lt _ _ (Nat.min_le_right _ _)
  | infinity s => exact word_lt _ _ (Nat.le_refl _)
  | nan s f => simp [Ieee.Datum.isNaN] at h

theorem bits_lt {op : BinOp} {x y r : Nat} (h : floatBits op .f64 x y = some r) : r < 18446744073709551616 := by
  unfold floatBits at h
  split at h
  · obtain ⟨d, hd, rfl⟩ := map_some h
    exact write_lt _ (sum_not_nan hd).2.2
  · obtain ⟨d, hd, rfl⟩ := map_some h
    exact write_lt _ (sum_not_nan hd).2.2
  · obtain ⟨d, hd, rfl⟩ := map_some h
    exact write_lt _ (product_not_nan hd).2.2
  · obtain ⟨d, hd, rfl⟩ := map_some h
    exact write_lt _ (quotient_not_nan hd).2.2
  · cases h

theorem cop_lt (op : BinOp) (x y : Option Nat) : Lt64 (cop op x y) := by
  intro b h
  unfold cop at h
  cases x with
  | none => cases h
  | some a =>
    cases y with
    | none => cases h
    | some c => exact bits_lt h

theorem cn_lt {b : Nat} (h : b < 18446744073709551616) : Lt64 (cn b) := by
  intro c hc
  unfold cn at hc
  split at hc
  · cases hc
  · cases hc; exact h

theorem cn_ng (b : Nat) : cn (ng b) = cneg (cn b) := by
  unfold cn cneg
  rw [read_ng b, opposite_nan]
  split <;> rfl

theorem cmul_negr {x y : Option Nat} : cop .mul x (cneg y) = cneg (cop .mul x y) := by
  cases x with
  | none => rfl
  | some a =>
    cases y with
    | none => rfl
    | some b =>
      show ((Ieee.double.read a).product (Ieee.double.read (ng b))).map Ieee.double.write = (((Ieee.double.read a).product (Ieee.double.read b)).map Ieee.double.write).map ng
      rw [read_ng b, product_negr]
      cases hp : (Ieee.double.read a).product (Ieee.double.read b) with
      | none => rfl
      | some d => exact congrArg some (write_neg d (product_not_nan hp).2.2)

theorem cneg_cneg (x : Option Nat) : cneg (cneg x) = x := by
  cases x with
  | none => rfl
  | some a =>
    show some ((a ^^^ 9223372036854775808) ^^^ 9223372036854775808) = some a
    rw [Nat.xor_assoc, Nat.xor_self, Nat.xor_zero]

theorem cmul_negl {x y : Option Nat} : cop .mul (cneg x) y = cneg (cop .mul x y) := by
  rw [cmul_comm, cmul_negr, cmul_comm]

theorem cmul_neg2 {x y : Option Nat} : cop .mul (cneg x) (cneg y) = cop .mul x y := by
  rw [cmul_negr, cmul_negl, cneg_cneg]

theorem signed_neg (s : Bool) (m k : Nat) : Ieee.signed (!s) m k = - Ieee.signed s m k := by
  cases s <;> simp [Ieee.signed]

theorem zero_read (s : Bool) (p : Int) : Ieee.double.read (Ieee.double.nearest s 0 p) = .number s 0 (-1074) := by
  have e : Ieee.double.nearest s 0 p = Ieee.double.nearest s 0 0 := by simp [Ieee.Format.nearest]
  rw [e]
  cases s <;> decide +kernel

/-- The sum of two with their signs turned is the sum with its sign turned (as == has it). -/
theorem cadd_neg {x y : Option Nat} {p r : Nat} (hp : cop .add x y = some p) (hr : cn r = cop .add (cneg x) (cneg y)) : eqb (ng p) r = true := by
  cases x with
  | none => cases hp
  | some a =>
    cases y with
    | none => cases hp
    | some b =>
      have hp' : ((Ieee.double.read a).sum (Ieee.double.read b)).map Ieee.double.write = some p := hp
      have hr' : cn r = ((Ieee.double.read (ng a)).sum (Ieee.double.read (ng b))).map Ieee.double.write := hr
      rw [read_ng a, read_ng b] at hr'
      obtain ⟨d, hd, rfl⟩ := map_some hp'
      have key : ∀ e : Ieee.Datum, (Ieee.double.read a).opposite.sum (Ieee.double.read b).opposite = some e → e = d.opposite → eqb (ng (Ieee.double.write d)) r = true := fun e he hed => by
        rw [he] at hr'
        have : r = Ieee.double.write e := by
          unfold cn at hr'
          split at hr'
          · cases hr'
          · exact Option.some.inj hr'
        rw [this, hed, ← write_neg d (sum_not_nan hd).2.2]
        have hnn : (Ieee.double.read (Ieee.double.write d.opposite)).isNaN = false := write_not_nan _ (by rw [opposite_nan]; exact (sum_not_nan hd).2.2)
        have := order_same hnn
        simp [eqb, this]
      cases ha : Ieee.double.read a with
      | nan s f => rw [ha] at hd; simp [Ieee.Datum.sum] at hd
      | infinity s =>
        cases hb : Ieee.double.read b with
        | nan t f => rw [ha, hb] at hd; simp [Ieee.Datum.sum] at hd
        | infinity t =>
          rw [ha, hb] at hd key
          simp only [Ieee.Datum.sum] at hd
          split at hd
          · rename_i hst
            subst hst
            cases hd
            exact key (.infinity (!s)) (by simp [Ieee.Datum.opposite, Ieee.Datum.sum]) rfl
          · cases hd
        | number t m i =>
          rw [ha, hb] at hd key
          cases hd
          exact key (.infinity (!s)) rfl rfl
      | number s m i =>
        cases hb : Ieee.double.read b with
        | nan t f => rw [ha, hb] at hd; simp [Ieee.Datum.sum] at hd
        | infinity t =>
          rw [ha, hb] at hd key
          cases hd
          exact key (.infinity (!t)) rfl rfl
        | number t k j =>
          rw [ha, hb] at hd key hr'
          simp only [Ieee.Datum.sum, Option.some.injEq] at hd
          simp only [Ieee.Datum.sum, Ieee.Datum.opposite, signed_neg] at key hr'
          generalize hT : Ieee.signed s m (i - min i j).toNat + Ieee.signed t k (j - min i j).toNat = T at *
          have hT' : - Ieee.signed s m (i - min i j).toNat + - Ieee.signed t k (j - min i j).toNat = -T := by omega
          rw [hT'] at key hr'
          subst hd
          by_cases h0 : T = 0
          · have n0 : (-T) = 0 := by omega
            simp only [h0, if_pos, Int.neg_zero, Int.natAbs_zero, Option.map_some] at hr' ⊢
            have hr2 : r = Ieee.double.nearest (!s && !t) 0 (min i j) := by
              unfold cn at hr'
              split at hr'
              · cases hr'
              · exact Option.some.inj hr'
            have e1 : ng (Ieee.double.write (.number (s && t) 0 (min i j))) = Ieee.double.nearest (!(s && t)) 0 (min i j) := (write_neg (.number (s && t) 0 (min i j)) rfl).symm
            rw [e1, hr2]
            show ((Ieee.double.read _).order (Ieee.double.read _) == some .eq) = true
            rw [zero_read, zero_read]
            cases (!(s && t)) <;> cases (!s && !t) <;> decide
          · refine key _ rfl ?_
            have n0 : ¬ (-T) = 0 := by omega
            simp only [if_neg h0, if_neg n0, Int.natAbs_neg]
            congr 1
            by_cases hl : T < 0
            · simp [hl]; omega
            · simp [hl]; omega

/-- Bar of a product is the product of Bars (as == has it), where it is no NaN. -/
theorem bar_eq {a b c d p1 p2 r1 r2 : Nat}
    (e1 : cn p1 = cre (cn a) (cn b) (cn c) (cn d)) (e2 : cn p2 = cim (cn a) (cn b) (cn c) (cn d)) (f1 : cn r1 = cre (cn a) (cn (ng b)) (cn c) (cn (ng d))) (f2 : cn r2 = cim (cn a) (cn (ng b)) (cn c) (cn (ng d)))
    (n1 : (Ieee.double.read p1).isNaN = false) (n2 : (Ieee.double.read p2).isNaN = false) : (eqb p1 r1 && eqb (ng p2) r2) = true := by
  rw [cn_ng, cn_ng] at f1 f2
  have g1 : cn r1 = cn p1 := by
    rw [f1, e1]
    unfold cre
    rw [cmul_neg2]
  have h1 : eqb p1 r1 = true := by
    rw [cn_some n1] at g1
    have : r1 = p1 := by
      unfold cn at g1
      split at g1
      · cases g1
      · exact Option.some.inj g1
    rw [this]
    have := order_same n1
    simp [eqb, this]
  have h2 : eqb (ng p2) r2 = true := by
    rw [cn_some n2] at e2
    unfold cim at e2 f2
    rw [cmul_negr, cmul_negl] at f2
    exact cadd_neg e2.symm f2
  rw [h1, h2]
  rfl
end Go.Proofs.Ytbogkkkfbimacaa
