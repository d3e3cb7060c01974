/- The model's whole numbers: products. -/
import Derived.Test.YtmpbhmmhdllkhaaQS7
namespace Go.Proofs.Ytmpbhmmhdllkhaa.Q
open Go.RowKit

/-- A number with another word at the place p. -/
def putW (N p y : Nat) : Nat := N % 4294967296 ^ p + (y + N / 4294967296 ^ (p + 1) * 4294967296) * 4294967296 ^ p

theorem split_at (N p : Nat) : N = N % 4294967296 ^ p + (wd N p + N / 4294967296 ^ (p + 1) * 4294967296) * 4294967296 ^ p := by
  have h1 := Nat.mod_add_div N (4294967296 ^ p)
  have h2 := wd_eq (A := N) (k := p)
  rw [show wd N p + N / 4294967296 ^ (p + 1) * 4294967296 = N / 4294967296 ^ p by omega, Nat.mul_comm (N / 4294967296 ^ p)]
  omega

theorem put_eq (N p y : Nat) : putW N p y + wd N p * 4294967296 ^ p = N + y * 4294967296 ^ p := by
  have h := split_at N p
  unfold putW
  rw [Nat.add_mul] at h ⊢
  omega

theorem put_at {N p y : Nat} (hy : y < 4294967296) : wd (putW N p y) p = y := by
  have hp := pow_pos' p
  show putW N p y / 4294967296 ^ p % 4294967296 = y
  unfold putW
  rw [Nat.add_mul_div_right _ _ hp, Nat.div_eq_of_lt (Nat.mod_lt _ hp)]
  omega

theorem put_low {N p y j : Nat} (hj : j < p) : wd (putW N p y) j = wd N j := by
  unfold putW
  rw [wd_add_lt hj]
  conv => rhs; rw [split_at N p]
  rw [wd_add_lt hj]

theorem put_high {N p y j : Nat} (hy : y < 4294967296) (hj : p < j) : wd (putW N p y) j = wd N j := by
  obtain ⟨i, rfl⟩ : ∃ i, j = p + 1 + i := ⟨j - p - 1, by omega⟩
  have hp := pow_pos' p
  have key : putW N p y / 4294967296 ^ (p + 1) = N / 4294967296 ^ (p + 1) := by
    unfold putW
    rw [Nat.pow_succ, ← Nat.div_div_eq_div_mul, Nat.add_mul_div_right _ _ hp, Nat.div_eq_of_lt (Nat.mod_lt _ hp)]
    omega
  show putW N p y / 4294967296 ^ (p + 1 + i) % _ = N / 4294967296 ^ (p + 1 + i) % _
  rw [Nat.pow_add, ← Nat.div_div_eq_div_mul, key, Nat.div_div_eq_div_mul]

theorem put_lt {N p y n : Nat} (hy : y < 4294967296) (hN : N < 4294967296 ^ n) (hp : p < n) : putW N p y < 4294967296 ^ n := by
  obtain ⟨m, rfl⟩ : ∃ m, n = p + 1 + m := ⟨n - p - 1, by omega⟩
  have hq : N / 4294967296 ^ (p + 1) < 4294967296 ^ m := by
    rw [Nat.div_lt_iff_lt_mul (pow_pos' _), ← Nat.pow_add, Nat.add_comm]
    exact hN
  unfold putW
  have h1 := Nat.mod_lt N (pow_pos' p)
  have h2 : (y + N / 4294967296 ^ (p + 1) * 4294967296 + 1) * 4294967296 ^ p ≤ 4294967296 * 4294967296 ^ m * 4294967296 ^ p := Nat.mul_le_mul_right _ (by omega)
  have e : 4294967296 ^ (p + 1 + m) = 4294967296 * 4294967296 ^ m * 4294967296 ^ p := by
    rw [Nat.pow_add, Nat.pow_succ]
    ac_rfl
  rw [e]
  rw [Nat.add_mul, Nat.one_mul] at h2
  omega

theorem Hol.put {base : Nat} {w : World} {g n cap N : Nat} (h : Hol base w (.slice (some ⟨g, 0, none⟩) n cap) n N) (p : Nat) (hp : p < n) (y : Nat) (hy : y < 4294967296) :
    Hol base (w.setCell ⟨g, p, none⟩ (.int .u32 (y : Int))) (.slice (some ⟨g, 0, none⟩) n cap) n (putW N p y) :=
  h.set p hp y _ (put_lt hy h.1 hp) (fun j _ hj => by rcases Nat.lt_or_gt_of_ne hj with h | h; exact put_low h; exact put_high hy h) (put_at hy)

/-- One word more of a row: what stands, what is carried. -/
theorem mul_step {R S C a b o x P : Nat} (h : S + C * P = R) (hx : x = a * b + o + C) (S' : Nat) (hS : S' + o * P = S + x % 4294967296 * P) : S' + x / 4294967296 * (P * 4294967296) = R + a * b * P := by
  have e : x % 4294967296 * P + x / 4294967296 * (P * 4294967296) = x * P := by
    rw [show x / 4294967296 * (P * 4294967296) = (4294967296 * (x / 4294967296)) * P by ac_rfl, ← Nat.add_mul, Nat.mod_add_div]
  have e2 : x * P = a * b * P + o * P + C * P := by rw [hx, Nat.add_mul, Nat.add_mul]
  omega

theorem mul_small {a b o C : Nat} (ha : a < 4294967296) (hb : b < 4294967296) (ho : o < 4294967296) (hC : C < 4294967296) : a * b + o + C < 18446744073709551616 ∧ (a * b + o + C) / 4294967296 < 4294967296 ∧ a * b < 18446744073709551616 := by
  have : a * b ≤ 4294967295 * 4294967295 := Nat.mul_le_mul (by omega) (by omega)
  omega
end Go.Proofs.Ytmpbhmmhdllkhaa.Q
