/- The model's whole numbers: what is shifted down. -/
import Derived.Test.YtmpbhmmhdllkhaaQS3
namespace Go.Proofs.Ytmpbhmmhdllkhaa.Q
open Go.RowKit

theorem two_wd (A i : Nat) : wd A i + wd A (i + 1) * 4294967296 = A / 4294967296 ^ i % 18446744073709551616 := by
  unfold wd
  rw [Nat.pow_succ, ← Nat.div_div_eq_div_mul]
  omega

theorem shr_word (A q j r : Nat) (hr : r < 32) : (wd A (q + j) + wd A (q + j + 1) * 4294967296) / 2 ^ r % 4294967296 = wd (A / 2 ^ (32 * q + r)) j := by
  rw [two_wd]
  unfold wd
  have e1 : A / 2 ^ (32 * q + r) / 4294967296 ^ j = A / 4294967296 ^ (q + j) / 2 ^ r := by
    rw [Nat.div_div_eq_div_mul, Nat.div_div_eq_div_mul]
    congr 1
    rw [Nat.pow_add 2, Nat.pow_mul, Nat.pow_add 4294967296, show (2 : Nat) ^ 32 = 4294967296 by decide]
    ac_rfl
  rw [e1]
  generalize A / 4294967296 ^ (q + j) = Q
  have e2 : (18446744073709551616 : Nat) = 2 ^ r * 2 ^ (64 - r) := by rw [← Nat.pow_add, show r + (64 - r) = 64 by omega]
  rw [e2, Nat.mod_mul_right_div_self]
  have e3 : 2 ^ (64 - r) = 4294967296 * 2 ^ (32 - r) := by rw [show (4294967296 : Nat) = 2 ^ 32 by decide, ← Nat.pow_add]; congr 1; omega
  rw [e3, Nat.mod_mul_right_mod]

theorem shr_wordI (A q j r : Nat) (hr : r < 32) : (((wd A (q + j) : Nat) : Int) + ((wd A (q + j + 1) : Nat) : Int) * 4294967296) / 2 ^ r % 4294967296 = ((wd (A / 2 ^ (32 * q + r)) j : Nat) : Int) := by
  rw [← shr_word A q j r hr, Int.natCast_emod, Int.natCast_ediv, Int.natCast_add, Int.natCast_mul, Int.natCast_pow]
  rfl

theorem shr_end {A n q r j : Nat} (hA : A < 4294967296 ^ n) (hj : n ≤ q + j) : A / 2 ^ (32 * q + r) % 4294967296 ^ j = A / 2 ^ (32 * q + r) := by
  apply Nat.mod_eq_of_lt
  rw [Nat.div_lt_iff_lt_mul (Nat.pow_pos (by decide))]
  refine Nat.lt_of_lt_of_le hA ?_
  have e : 4294967296 ^ j * 2 ^ (32 * q + r) = 4294967296 ^ (q + j) * 2 ^ r := by
    rw [Nat.pow_add 2, Nat.pow_mul, Nat.pow_add 4294967296, show (2 : Nat) ^ 32 = 4294967296 by decide]
    ac_rfl
  rw [e]
  exact Nat.le_trans (Nat.pow_le_pow_right (by decide) hj) (Nat.le_mul_of_pos_right _ (Nat.pow_pos (by decide)))

/-- What the loop of l1Shr holds on to. -/
def ShrRel (N b : Nat) (w wr : World) (v : Value) (j : Nat) : Prop := Hol b wr v j (N % 4294967296 ^ j) ∧ Below b w wr

theorem shrRel_next {N b : Nat} {w wr w1 : World} {v v' : Value} {j : Nat} {x : Int} {o : Obj} (h : ShrRel N b w wr v j) (hB : b ≤ wr.heap.size) (hx : x = ((wd N j : Nat) : Int))
    (hown : w1.ownsRow b 48 1 v' (j + 1) (wds j (N % 4294967296 ^ j) ++ [.int .u32 x])) (hgrow : (wr.alloc o).grownBy w1 v.ownBlock) : ShrRel N b w w1 v' (j + 1) := by
  obtain ⟨h1, h2⟩ := app_step h.1 _ hx (wd_lt _ _) h.2 hB hown hgrow
  refine ⟨?_, h2⟩
  rw [mod_succ]
  exact h1

end Go.Proofs.Ytmpbhmmhdllkhaa.Q
