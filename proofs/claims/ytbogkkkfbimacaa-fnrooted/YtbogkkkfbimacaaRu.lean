/- A polynomial of small roots in floats; FnRooted: the walk. -/
import Derived.Test.YtbogkkkfbimacaaRt
namespace Go.Proofs.Ytbogkkkfbimacaa
open Go.RowKit

theorem V_zero : Vc (some 0) 0 := ⟨0, rfl, ⟨false, by decide +kernel, rfl⟩, by decide⟩
theorem V_one' : Vc (some 4607182418800017408) 1 := ⟨_, rfl, ⟨false, by decide +kernel, rfl⟩, by decide⟩

theorem pow_le {i : Nat} (h : i ≤ 8) : 5 ^ i ≤ 390625 := Nat.le_trans (Nat.pow_le_pow_right (by decide) h) (by decide)

theorem Vroot {xs ys : Nat → Nat} {zs : Nat → Int × Int} {n : Nat} (hn : n ≤ 8) (hs : Sm zs n) (hv : ∀ k, k < n → Vc (cn (xs k)) (zs k).1 ∧ Vc (cn (ys k)) (zs k).2) : ∀ i, i ≤ n → ∀ j, j ≤ i → Vc (croot xs ys i j).1 (ir zs i j).1 ∧ Vc (croot xs ys i j).2 (ir zs i j).2
  | 0, _, _, _ => ⟨V_one', V_zero⟩
  | i + 1, hi, j, hj => by
    by_cases hji : j = i + 1
    · have e : ir zs (i + 1) j = (1, 0) := by simp [ir, hji]
      have e2 : croot xs ys (i + 1) j = (some 4607182418800017408, some 0) := by simp [croot, hji]
      rw [e, e2]
      exact ⟨V_one', V_zero⟩
    · have e2 : croot xs ys (i + 1) j = cnext (cn (xs i)) (cn (ys i)) (croot xs ys i) j := by simp [croot, hji]
      rw [ir_low zs i j (by omega), e2]
      have h1 := Vroot hn hs hv i (by omega) j (by omega)
      have l1 := ir_le hs i (by omega) j (by omega)
      have hp := pow_le (show i ≤ 8 by omega)
      obtain ⟨p1, p2, p3, p4, p5, p6⟩ := prod_le (hs i (by omega)) l1
      have hsm : sml (zs i).1 (zs i).2 (ir zs i j).1 (ir zs i j).2 = true := by unfold sml; simp only [Bool.and_eq_true, decide_eq_true_eq]; omega
      obtain ⟨q1, q2⟩ := Vc.prod (hv i (by omega)).1 (hv i (by omega)).2 h1.1 h1.2 hsm
      unfold cnext inx
      by_cases h0 : j = 0
      · simp only [if_pos h0]
        exact ⟨Vc.sub V_zero q1 (by omega), Vc.sub V_zero q2 (by omega)⟩
      · simp only [if_neg h0]
        have h2 := Vroot hn hs hv i (by omega) (j - 1) (by omega)
        have l2 := ir_le hs i (by omega) (j - 1) (by omega)
        have m1 := l2.1
        have m2 := l2.2
        exact ⟨Vc.sub h2.1 q1 (by omega), Vc.sub h2.2 q2 (by omega)⟩

theorem prod_le2 {w z : Int × Int} {B : Nat} (hw : (-2 ≤ w.1 ∧ w.1 ≤ 2) ∧ (-2 ≤ w.2 ∧ w.2 ≤ 2)) (hz : Le z B) : (ire z.1 z.2 w.1 w.2).natAbs ≤ 4 * B ∧ (iim z.1 z.2 w.1 w.2).natAbs ≤ 4 * B ∧ (z.1 * w.1).natAbs ≤ 2 * B ∧ (z.2 * w.2).natAbs ≤ 2 * B ∧ (z.1 * w.2).natAbs ≤ 2 * B ∧ (z.2 * w.1).natAbs ≤ 2 * B := by
  obtain ⟨_, _, a1, a2, a3, a4⟩ := prod_le hw hz
  rw [Int.mul_comm] at a1 a2 a3 a4
  refine ⟨by unfold ire; omega, by unfold iim; omega, a1, a2, a4, a3⟩

theorem Vpoly {X Y : Nat → Nat} {zs : Nat → Int × Int} {n : Nat} (hn : n ≤ 8) (hs : Sm zs n) (hc : ∀ j, j ≤ n → Vc (cn (X j)) (ir zs n j).1 ∧ Vc (cn (Y j)) (ir zs n j).2) {r1 r2 : Option Nat} {x : Int × Int} (hx : (-2 ≤ x.1 ∧ x.1 ≤ 2) ∧ (-2 ≤ x.2 ∧ x.2 ≤ 2)) (h1 : Vc r1 x.1) (h2 : Vc r2 x.2) :
    ∀ j, j ≤ n → Vc (cpoly X Y (n + 1) r1 r2 j).1 (ip (ir zs n) n x j).1 ∧ Vc (cpoly X Y (n + 1) r1 r2 j).2 (ip (ir zs n) n x j).2 ∧ Le (ip (ir zs n) n x j) (390625 * 5 ^ j)
  | 0, _ => by
    obtain ⟨v1, v2⟩ := hc n (Nat.le_refl _)
    have hp := pow_le hn
    have l := ir_le hs n (Nat.le_refl _) n (Nat.le_refl _)
    have m1 := l.1
    have m2 := l.2
    refine ⟨v1, v2, ?_, ?_⟩
    · show (ir zs n n).1.natAbs ≤ _
      omega
    · show (ir zs n n).2.natAbs ≤ _
      omega
  | j + 1, hj => by
    obtain ⟨v1, v2, l⟩ := Vpoly hn hs hc hx h1 h2 j (by omega)
    have hpj := pow_le (show j ≤ 8 by omega)
    have hp := pow_le hn
    have hp1 : 1 ≤ 5 ^ j := Nat.pow_pos (by decide)
    have e5 : 5 ^ (j + 1) = 5 * 5 ^ j := by rw [Nat.pow_succ]; omega
    obtain ⟨p1, p2, p3, p4, p5, p6⟩ := prod_le2 hx l
    have lc := ir_le hs n (Nat.le_refl _) (n - 1 - j) (by omega)
    have m1 := lc.1
    have m2 := lc.2
    obtain ⟨c1, c2⟩ := hc (n - 1 - j) (by omega)
    have hsm : sml (ip (ir zs n) n x j).1 (ip (ir zs n) n x j).2 x.1 x.2 = true := by unfold sml; simp only [Bool.and_eq_true, decide_eq_true_eq]; omega
    obtain ⟨q1, q2⟩ := Vc.prod v1 v2 h1 h2 hsm
    have hidx : n + 1 - 2 - j = n - 1 - j := by omega
    have a1 : cpoly X Y (n + 1) r1 r2 (j + 1) = (cop .add (cre (cpoly X Y (n + 1) r1 r2 j).1 (cpoly X Y (n + 1) r1 r2 j).2 r1 r2) (cn (X (n + 1 - 2 - j))), cop .add (cim (cpoly X Y (n + 1) r1 r2 j).1 (cpoly X Y (n + 1) r1 r2 j).2 r1 r2) (cn (Y (n + 1 - 2 - j)))) := rfl
    have a2 : ip (ir zs n) n x (j + 1) = (ire (ip (ir zs n) n x j).1 (ip (ir zs n) n x j).2 x.1 x.2 + (ir zs n (n - 1 - j)).1, iim (ip (ir zs n) n x j).1 (ip (ir zs n) n x j).2 x.1 x.2 + (ir zs n (n - 1 - j)).2) := rfl
    rw [a1, a2, hidx, e5]
    refine ⟨Vc.add q1 c1 (by omega), Vc.add q2 c2 (by omega), ?_, ?_⟩
    · show Int.natAbs _ ≤ _
      omega
    · show Int.natAbs _ ≤ _
      omega

theorem eq_one : (eqb 4607182418800017408 4607182418800017408 && eqb 0 0) = true := by decide +kernel
theorem V_z : Vc (cn 0) 0 := ⟨0, cn_zero, ⟨false, by decide +kernel, rfl⟩, by decide⟩
end Go.Proofs.Ytbogkkkfbimacaa
