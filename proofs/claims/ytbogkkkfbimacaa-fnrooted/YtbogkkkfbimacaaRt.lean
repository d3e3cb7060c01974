/- A polynomial of small roots is 0 at them: in whole numbers, and in floats. -/
import Derived.Test.YtbogkkkfbimacaaN2
import Derived.Test.YtbogkkkfbimacaaT2
namespace Go.Proofs.Ytbogkkkfbimacaa
open Go.RowKit

/-- A step of RootsTo, in whole numbers. -/
def inx (w : Int × Int) (P : Nat → Int × Int) (k : Nat) : Int × Int :=
  ((if k = 0 then 0 else (P (k - 1)).1) - ire w.1 w.2 (P k).1 (P k).2, (if k = 0 then 0 else (P (k - 1)).2) - iim w.1 w.2 (P k).1 (P k).2)

/-- The polynomial of the first roots, in whole numbers. -/
def ir (zs : Nat → Int × Int) : Nat → Nat → Int × Int
  | 0, _ => (1, 0)
  | i + 1, j => if j = i + 1 then (1, 0) else inx (zs i) (ir zs i) j

/-- A polynomial of degree n at a place, behind j steps. -/
def ip (c : Nat → Int × Int) (n : Nat) (x : Int × Int) : Nat → Int × Int
  | 0 => c n
  | j + 1 => (ire (ip c n x j).1 (ip c n x j).2 x.1 x.2 + (c (n - 1 - j)).1, iim (ip c n x j).1 (ip c n x j).2 x.1 x.2 + (c (n - 1 - j)).2)

theorem ir_top (zs : Nat → Int × Int) : ∀ n, ir zs n n = (1, 0)
  | 0 => rfl
  | n + 1 => by simp [ir]

theorem ir_low (zs : Nat → Int × Int) (n k : Nat) (h : k ≤ n) : ir zs (n + 1) k = inx (zs n) (ir zs n) k := by
  have : ¬ k = n + 1 := by omega
  simp [ir, this]

theorem step_mid (zs : Nat → Int × Int) (x : Int × Int) (n : Nat) : ∀ j, j < n →
    (ip (ir zs (n + 1)) (n + 1) x (j + 1)).1 = (ip (ir zs n) n x (j + 1)).1 - ire (zs n).1 (zs n).2 (ip (ir zs n) n x j).1 (ip (ir zs n) n x j).2 ∧
    (ip (ir zs (n + 1)) (n + 1) x (j + 1)).2 = (ip (ir zs n) n x (j + 1)).2 - iim (zs n).1 (zs n).2 (ip (ir zs n) n x j).1 (ip (ir zs n) n x j).2
  | 0, h => by
    have e1 : ip (ir zs (n + 1)) (n + 1) x 0 = (1, 0) := ir_top zs (n + 1)
    have e2 : ip (ir zs n) n x 0 = (1, 0) := ir_top zs n
    have e3 : ir zs (n + 1) n = inx (zs n) (ir zs n) n := ir_low zs n n (Nat.le_refl _)
    have hn : ¬ n = 0 := by omega
    have a1 : ip (ir zs (n + 1)) (n + 1) x (0 + 1) = (ire (ip (ir zs (n + 1)) (n + 1) x 0).1 (ip (ir zs (n + 1)) (n + 1) x 0).2 x.1 x.2 + (ir zs (n + 1) n).1, iim (ip (ir zs (n + 1)) (n + 1) x 0).1 (ip (ir zs (n + 1)) (n + 1) x 0).2 x.1 x.2 + (ir zs (n + 1) n).2) := rfl
    have a2 : ip (ir zs n) n x (0 + 1) = (ire (ip (ir zs n) n x 0).1 (ip (ir zs n) n x 0).2 x.1 x.2 + (ir zs n (n - 1)).1, iim (ip (ir zs n) n x 0).1 (ip (ir zs n) n x 0).2 x.1 x.2 + (ir zs n (n - 1)).2) := rfl
    rw [a1, a2, e1, e2, e3]
    simp only [inx, if_neg hn, ir_top, ire, iim]
    clear a1 a2 e1 e2 e3
    constructor <;> grind
  | j + 1, h => by
    obtain ⟨h1, h2⟩ := step_mid zs x n j (by omega)
    have e3 : ir zs (n + 1) (n + 1 - 1 - (j + 1)) = inx (zs n) (ir zs n) (n - 1 - j) := by
      have : n + 1 - 1 - (j + 1) = n - 1 - j := by omega
      rw [this]
      exact ir_low zs n _ (by omega)
    have hn : ¬ n - 1 - j = 0 := by omega
    have e4 : n - 1 - j - 1 = n - 1 - (j + 1) := by omega
    have a1 : ip (ir zs (n + 1)) (n + 1) x (j + 1 + 1) = (ire (ip (ir zs (n + 1)) (n + 1) x (j + 1)).1 (ip (ir zs (n + 1)) (n + 1) x (j + 1)).2 x.1 x.2 + (ir zs (n + 1) (n + 1 - 1 - (j + 1))).1, iim (ip (ir zs (n + 1)) (n + 1) x (j + 1)).1 (ip (ir zs (n + 1)) (n + 1) x (j + 1)).2 x.1 x.2 + (ir zs (n + 1) (n + 1 - 1 - (j + 1))).2) := rfl
    have a2 : ip (ir zs n) n x (j + 1 + 1) = (ire (ip (ir zs n) n x (j + 1)).1 (ip (ir zs n) n x (j + 1)).2 x.1 x.2 + (ir zs n (n - 1 - (j + 1))).1, iim (ip (ir zs n) n x (j + 1)).1 (ip (ir zs n) n x (j + 1)).2 x.1 x.2 + (ir zs n (n - 1 - (j + 1))).2) := rfl
    have a3 : ip (ir zs n) n x (j + 1) = (ire (ip (ir zs n) n x j).1 (ip (ir zs n) n x j).2 x.1 x.2 + (ir zs n (n - 1 - j)).1, iim (ip (ir zs n) n x j).1 (ip (ir zs n) n x j).2 x.1 x.2 + (ir zs n (n - 1 - j)).2) := rfl
    have b1 := congrArg Prod.fst a3
    have b2 := congrArg Prod.snd a3
    rw [a1, a2, h1, h2, e3]
    simp only [inx, if_neg hn, e4]
    simp only at b1 b2
    clear a1 a2 a3 h1 h2 e3
    generalize (ip (ir zs n) n x (j + 1)).1 = s1 at *
    generalize (ip (ir zs n) n x (j + 1)).2 = s2 at *
    generalize (ip (ir zs n) n x j).1 = t1 at *
    generalize (ip (ir zs n) n x j).2 = t2 at *
    generalize (ir zs n (n - 1 - j)).1 = c1 at *
    generalize (ir zs n (n - 1 - j)).2 = c2 at *
    generalize (ir zs n (n - 1 - (j + 1))).1 = d1 at *
    generalize (ir zs n (n - 1 - (j + 1))).2 = d2 at *
    generalize (zs n).1 = z1 at *
    generalize (zs n).2 = z2 at *
    unfold ire iim at *
    subst b1 b2
    constructor <;> grind

/-- One root more: a factor more. -/
theorem step_end (zs : Nat → Int × Int) (x : Int × Int) (n : Nat) :
    (ip (ir zs (n + 1)) (n + 1) x (n + 1)).1 = ire (x.1 - (zs n).1) (x.2 - (zs n).2) (ip (ir zs n) n x n).1 (ip (ir zs n) n x n).2 ∧
    (ip (ir zs (n + 1)) (n + 1) x (n + 1)).2 = iim (x.1 - (zs n).1) (x.2 - (zs n).2) (ip (ir zs n) n x n).1 (ip (ir zs n) n x n).2 := by
  have e3 : ir zs (n + 1) (n + 1 - 1 - n) = inx (zs n) (ir zs n) 0 := by
    have : n + 1 - 1 - n = 0 := by omega
    rw [this]
    exact ir_low zs n 0 (Nat.zero_le _)
  have a1 : ip (ir zs (n + 1)) (n + 1) x (n + 1) = (ire (ip (ir zs (n + 1)) (n + 1) x n).1 (ip (ir zs (n + 1)) (n + 1) x n).2 x.1 x.2 + (ir zs (n + 1) (n + 1 - 1 - n)).1, iim (ip (ir zs (n + 1)) (n + 1) x n).1 (ip (ir zs (n + 1)) (n + 1) x n).2 x.1 x.2 + (ir zs (n + 1) (n + 1 - 1 - n)).2) := rfl
  rw [a1, e3]
  cases n with
  | zero =>
    have e1 : ip (ir zs (0 + 1)) (0 + 1) x 0 = (1, 0) := ir_top zs 1
    have e2 : ip (ir zs 0) 0 x 0 = (1, 0) := rfl
    have e4 : ir zs 0 0 = (1, 0) := rfl
    simp only [e1, e2, e4, inx, if_pos, ire, iim]
    constructor <;> grind
  | succ m =>
    obtain ⟨h1, h2⟩ := step_mid zs x (m + 1) m (by omega)
    have a3 : ip (ir zs (m + 1)) (m + 1) x (m + 1) = (ire (ip (ir zs (m + 1)) (m + 1) x m).1 (ip (ir zs (m + 1)) (m + 1) x m).2 x.1 x.2 + (ir zs (m + 1) (m + 1 - 1 - m)).1, iim (ip (ir zs (m + 1)) (m + 1) x m).1 (ip (ir zs (m + 1)) (m + 1) x m).2 x.1 x.2 + (ir zs (m + 1) (m + 1 - 1 - m)).2) := rfl
    have hz : m + 1 - 1 - m = 0 := by omega
    rw [hz] at a3
    have b1 := congrArg Prod.fst a3
    have b2 := congrArg Prod.snd a3
    rw [h1, h2]
    simp only [inx, if_pos]
    simp only at b1 b2
    clear a1 a3 h1 h2 e3
    generalize (ip (ir zs (m + 1)) (m + 1) x (m + 1)).1 = s1 at *
    generalize (ip (ir zs (m + 1)) (m + 1) x (m + 1)).2 = s2 at *
    generalize (ip (ir zs (m + 1)) (m + 1) x m).1 = t1 at *
    generalize (ip (ir zs (m + 1)) (m + 1) x m).2 = t2 at *
    generalize (ir zs (m + 1) 0).1 = c1 at *
    generalize (ir zs (m + 1) 0).2 = c2 at *
    generalize (zs (m + 1)).1 = z1 at *
    generalize (zs (m + 1)).2 = z2 at *
    unfold ire iim at *
    subst b1 b2
    constructor <;> grind

/-- The polynomial is 0 at its roots. -/
theorem roots_zero (zs : Nat → Int × Int) : ∀ (n k : Nat), k < n → ip (ir zs n) n (zs k) n = (0, 0)
  | 0, _, h => by omega
  | n + 1, k, h => by
    obtain ⟨h1, h2⟩ := step_end zs (zs k) n
    apply Prod.ext
    · rw [h1]
      by_cases hk : k = n
      · subst hk; simp [ire]
      · rw [roots_zero zs n k (by omega)]; simp [ire]
    · rw [h2]
      by_cases hk : k = n
      · subst hk; simp [iim]
      · rw [roots_zero zs n k (by omega)]; simp [iim]

/-- Small parts. -/
def Le (z : Int × Int) (B : Nat) : Prop := z.1.natAbs ≤ B ∧ z.2.natAbs ≤ B

theorem prod_le {w z : Int × Int} {B : Nat} (hw : (-2 ≤ w.1 ∧ w.1 ≤ 2) ∧ (-2 ≤ w.2 ∧ w.2 ≤ 2)) (hz : Le z B) : (ire w.1 w.2 z.1 z.2).natAbs ≤ 4 * B ∧ (iim w.1 w.2 z.1 z.2).natAbs ≤ 4 * B ∧ (w.1 * z.1).natAbs ≤ 2 * B ∧ (w.2 * z.2).natAbs ≤ 2 * B ∧ (w.1 * z.2).natAbs ≤ 2 * B ∧ (w.2 * z.1).natAbs ≤ 2 * B := by
  have key : ∀ (a b : Int), (-2 ≤ a ∧ a ≤ 2) → b.natAbs ≤ B → (a * b).natAbs ≤ 2 * B := fun a b ha hb => by
    have : a = -2 ∨ a = -1 ∨ a = 0 ∨ a = 1 ∨ a = 2 := by omega
    rcases this with rfl | rfl | rfl | rfl | rfl <;> omega
  have a1 := key _ _ hw.1 hz.1
  have a2 := key _ _ hw.2 hz.2
  have a3 := key _ _ hw.1 hz.2
  have a4 := key _ _ hw.2 hz.1
  unfold ire iim
  refine ⟨by omega, by omega, a1, a2, a3, a4⟩

/-- Small ones, as roots. -/
def Sm (zs : Nat → Int × Int) (n : Nat) : Prop := ∀ k, k < n → (-2 ≤ (zs k).1 ∧ (zs k).1 ≤ 2) ∧ (-2 ≤ (zs k).2 ∧ (zs k).2 ≤ 2)

theorem ir_le {zs : Nat → Int × Int} {n : Nat} (h : Sm zs n) : ∀ i, i ≤ n → ∀ j, j ≤ i → Le (ir zs i j) (5 ^ i)
  | 0, _, j, _ => by constructor <;> simp [ir]
  | i + 1, hi, j, hj => by
    have hp : 0 < 5 ^ i := Nat.pow_pos (by decide)
    have e5 : 5 ^ (i + 1) = 5 * 5 ^ i := by rw [Nat.pow_succ]; omega
    rw [e5]
    by_cases hji : j = i + 1
    · have e : ir zs (i + 1) j = (1, 0) := by simp [ir, hji]
      rw [e]
      constructor
      · show (1 : Int).natAbs ≤ _
        have : (1 : Int).natAbs = 1 := rfl
        omega
      · show (0 : Int).natAbs ≤ _
        have : (0 : Int).natAbs = 0 := rfl
        omega
    · rw [ir_low zs i j (by omega)]
      have h1 := ir_le h i (by omega) j (by omega)
      obtain ⟨p1, p2, _⟩ := prod_le (h i (by omega)) h1
      unfold inx
      by_cases h0 : j = 0
      · simp only [if_pos h0]
        exact ⟨by show Int.natAbs _ ≤ _; omega, by show Int.natAbs _ ≤ _; omega⟩
      · simp only [if_neg h0]
        have h2 := ir_le h i (by omega) (j - 1) (by omega)
        have q1 := h2.1
        have q2 := h2.2
        exact ⟨by show Int.natAbs _ ≤ _; omega, by show Int.natAbs _ ≤ _; omega⟩
end Go.Proofs.Ytbogkkkfbimacaa
