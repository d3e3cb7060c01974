/- Walsh numbers: those of those are the list, as often as it is long. -/
import Derived.Test.YtabdondefoldaaaDoorM4
namespace Go.Proofs.YtabdondefoldaaaDoor

/-- Whether an odd number of the last t bits is set. -/
def par : Nat → Nat → Bool
  | 0, _ => false
  | t + 1, b => par t (b / 2) != (b % 2 == 1)

/-- The sign at places i and k. -/
def sgw (t i k : Nat) : Int := if par t (i &&& k) then -1 else 1

theorem and_bit (i k : Nat) : ((i &&& k) % 2 == 1) = ((i % 2 == 1) && (k % 2 == 1)) := by
  rw [Bool.eq_iff_iff]
  simp

theorem and_half (i k : Nat) : (i &&& k) / 2 = i / 2 &&& k / 2 := by
  apply Nat.eq_of_testBit_eq
  intro j
  rw [Nat.testBit_and, Nat.testBit_div_two, Nat.testBit_div_two, Nat.testBit_div_two, Nat.testBit_and]

theorem sgw_step (t i k : Nat) : sgw (t + 1) i k = sgw t (i / 2) (k / 2) * (if (i % 2 == 1) && (k % 2 == 1) then -1 else 1) := by
  unfold sgw
  rw [par, and_half, and_bit]
  cases par t (i / 2 &&& k / 2) <;> cases ((i % 2 == 1) && (k % 2 == 1)) <;> rfl

theorem sgw_comm (t i k : Nat) : sgw t i k = sgw t k i := by unfold sgw; rw [Nat.and_comm]

/-- A sum over the even and the odd places. -/
theorem sm_two (f : Nat → Int) : ∀ n, sm f (n + n) = sm (fun k => f (2 * k) + f (2 * k + 1)) n
  | 0 => rfl
  | n + 1 => by
    rw [show n + 1 + (n + 1) = n + n + 1 + 1 by omega, sm, sm, sm_two f n, sm, show n + n = 2 * n by omega]
    omega

theorem two_pow_twice (t : Nat) : 2 ^ (t + 1) = 2 ^ t + 2 ^ t := by rw [Nat.pow_succ]; omega

/-- Two rows of signs, multiplied and summed. -/
theorem walsh_ortho : ∀ (t i j : Nat), i < 2 ^ t → j < 2 ^ t → sm (fun k => sgw t i k * sgw t k j) (2 ^ t) = if i = j then ((2 ^ t : Nat) : Int) else 0
  | 0, i, j, hi, hj => by
    have h1 : i = 0 := by rw [Nat.pow_zero] at hi; omega
    have h2 : j = 0 := by rw [Nat.pow_zero] at hj; omega
    subst h1 h2
    rfl
  | t + 1, i, j, hi, hj => by
    rw [two_pow_twice] at hi hj
    have ih := walsh_ortho t (i / 2) (j / 2) (by omega) (by omega)
    rw [two_pow_twice, sm_two]
    have e : ∀ k, sgw (t + 1) i (2 * k) * sgw (t + 1) (2 * k) j + sgw (t + 1) i (2 * k + 1) * sgw (t + 1) (2 * k + 1) j = (if (i % 2 == 1) = (j % 2 == 1) then 2 else 0) * (sgw t (i / 2) k * sgw t k (j / 2)) := by
      intro k
      rw [sgw_step t i (2 * k), sgw_step t (2 * k) j, sgw_step t i (2 * k + 1), sgw_step t (2 * k + 1) j]
      rw [show 2 * k / 2 = k by omega, show (2 * k + 1) / 2 = k by omega, show 2 * k % 2 = 0 by omega, show (2 * k + 1) % 2 = 1 by omega]
      generalize sgw t (i / 2) k = A
      generalize sgw t k (j / 2) = B
      cases (i % 2 == 1) <;> cases (j % 2 == 1) <;> simp <;> grind
    rw [sm_congr _ (fun k _ => e k), sm_mul, ih]
    by_cases c : i = j
    · subst c
      rw [if_pos rfl, if_pos rfl, if_pos rfl]
      omega
    · rw [if_neg c]
      by_cases d : (i % 2 == 1) = (j % 2 == 1)
      · rw [if_pos d, if_neg, Int.mul_zero]
        intro e2
        have : i % 2 = j % 2 := by
          have h1 : i % 2 = 0 ∨ i % 2 = 1 := by omega
          have h2 : j % 2 = 0 ∨ j % 2 = 1 := by omega
          rcases h1 with h1 | h1 <;> rcases h2 with h2 | h2 <;> rw [h1, h2] at d <;> simp at d <;> omega
        omega
      · rw [if_neg d, Int.zero_mul]

/-- Walsh twice. -/
theorem walsh_twice (t : Nat) (xs : Nat → Int) {j : Nat} (hj : j < 2 ^ t) : sm (fun k => sm (fun i => xs i * sgw t i k) (2 ^ t) * sgw t k j) (2 ^ t) = xs j * ((2 ^ t : Nat) : Int) := by
  have h1 : ∀ k, sm (fun i => xs i * sgw t i k) (2 ^ t) * sgw t k j = sm (fun i => xs i * (sgw t i k * sgw t k j)) (2 ^ t) := by
    intro k
    rw [Int.mul_comm, ← sm_mul]
    refine sm_congr _ (fun i _ => ?_)
    grind
  rw [sm_congr _ (fun k _ => h1 k), sm_swap]
  have h2 : ∀ i, i < 2 ^ t → sm (fun k => xs i * (sgw t i k * sgw t k j)) (2 ^ t) = if j = i then xs i * ((2 ^ t : Nat) : Int) else 0 := by
    intro i hi
    rw [sm_mul, walsh_ortho t i j hi hj]
    by_cases c : i = j
    · subst c; rw [if_pos rfl, if_pos rfl]
    · rw [if_neg c, if_neg (fun e => c e.symm), Int.mul_zero]
  rw [sm_congr _ h2]
  exact sm_ind (fun i => xs i * ((2 ^ t : Nat) : Int)) _ hj
end Go.Proofs.YtabdondefoldaaaDoor
