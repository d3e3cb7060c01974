/- Walsh numbers, and what the row by halves comes to. -/
import Derived.Test.YtfmllgohmlocoaaL3
import Derived.BigRegion
namespace Go.Proofs.Ytfmllgohmlocoaa
open Go.RowKit

/-- A sum. -/
def sm (f : Nat → Int) : Nat → Int
  | 0 => 0
  | n + 1 => sm f n + f n

theorem sm_add (f g : Nat → Int) : ∀ n, sm (fun i => f i + g i) n = sm f n + sm g n
  | 0 => rfl
  | n + 1 => by rw [sm, sm_add f g n, sm, sm]; omega

theorem sm_zero : ∀ n, sm (fun _ => 0) n = 0
  | 0 => rfl
  | n + 1 => by rw [sm, sm_zero n]; rfl

theorem sm_mul (c : Int) (f : Nat → Int) : ∀ n, sm (fun i => c * f i) n = c * sm f n
  | 0 => by simp [sm]
  | n + 1 => by rw [sm, sm_mul c f n, sm, Int.mul_add]

theorem sm_congr {f g : Nat → Int} : ∀ n, (∀ i, i < n → f i = g i) → sm f n = sm g n
  | 0, _ => rfl
  | n + 1, h => by rw [sm, sm, sm_congr n (fun i hi => h i (by omega)), h n (by omega)]

/-- Whether an odd number of the last t bits is set. -/
def par : Nat → Nat → Bool
  | 0, _ => false
  | t + 1, b => par t (b / 2) != (b % 2 == 1)

/-- The sign at places i and k. -/
def sgw (t i k : Nat) : Int := if par t (i &&& k) then -1 else 1

theorem and_bit (i k : Nat) : ((i &&& k) % 2 == 1) = ((i % 2 == 1) && (k % 2 == 1)) := by
  rw [Bool.eq_iff_iff]
  simp

theorem and_half (i k : Nat) : (i &&& k) / 2 = i / 2 &&& k / 2 := by
  apply Nat.eq_of_testBit_eq
  intro j
  rw [Nat.testBit_and, Nat.testBit_div_two, Nat.testBit_div_two, Nat.testBit_div_two, Nat.testBit_and]

theorem sgw_step (t i k : Nat) : sgw (t + 1) i k = sgw t (i / 2) (k / 2) * (if (i % 2 == 1) && (k % 2 == 1) then -1 else 1) := by
  unfold sgw
  rw [par, and_half, and_bit]
  cases par t (i / 2 &&& k / 2) <;> cases ((i % 2 == 1) && (k % 2 == 1)) <;> rfl

theorem sgw_comm (t i k : Nat) : sgw t i k = sgw t k i := by unfold sgw; rw [Nat.and_comm]

/-- A sum over the even and the odd places. -/
theorem sm_two (f : Nat → Int) : ∀ n, sm f (n + n) = sm (fun k => f (2 * k) + f (2 * k + 1)) n
  | 0 => rfl
  | n + 1 => by
    rw [show n + 1 + (n + 1) = n + n + 1 + 1 by omega, sm, sm, sm_two f n, sm, show n + n = 2 * n by omega]
    omega

theorem two_pow_twice (t : Nat) : 2 ^ (t + 1) = 2 ^ t + 2 ^ t := by rw [Nat.pow_succ]; omega

/-- How two numbers of Walsh meet. -/
def wmf (a b : Int) (_ : Nat) : Int × Int := (a + b, a - b)

theorem par_zero : ∀ t, par t 0 = false
  | 0 => rfl
  | t + 1 => by rw [par, Nat.zero_div, par_zero t]; rfl

theorem pow_split {m r : Nat} (h : r + 1 ≤ m) : 2 ^ m / 2 ^ (r + 1) = 2 ^ (m - (r + 1)) ∧ 2 ^ (m - r) = 2 * 2 ^ (m - (r + 1)) := by
  refine ⟨Nat.pow_div h (by omega), ?_⟩
  rw [show m - r = (m - (r + 1)) + 1 by omega, Nat.pow_succ, Nat.mul_comm]

theorem sm_sub (f g : Nat → Int) : ∀ n, sm (fun i => f i - g i) n = sm f n - sm g n
  | 0 => rfl
  | n + 1 => by rw [sm, sm_sub f g n, sm, sm]; omega

theorem walsh_halves {m : Nat} {xs : Nat → Int} : ∀ r, r ≤ m → ∀ b j, j < 2 ^ (m - r) → b < 2 ^ r → trf wmf (2 ^ m) xs r (b * 2 ^ (m - r) + j) = sm (fun q => xs (q * 2 ^ (m - r) + j) * sgw r q b) (2 ^ r)
  | 0, _, b, j, hj, hb => by
    have : b = 0 := by rw [Nat.pow_zero] at hb; omega
    subst this
    simp [trf, sm, sgw, par]
  | r + 1, hr, b, j, hj, hb => by
    have ih := walsh_halves (m := m) (xs := xs) r (by omega)
    obtain ⟨e1, e2⟩ := pow_split hr
    rw [two_pow_twice] at hb
    obtain ⟨h, hh⟩ : ∃ h, h = 2 ^ (m - (r + 1)) := ⟨_, rfl⟩
    rw [← hh] at hj e2
    rw [e2] at ih
    rw [← hh]
    show nw wmf (trf wmf (2 ^ m) xs r) (2 ^ m / 2 ^ (r + 1)) r (b * h + j) = _
    rw [e1, ← hh, two_pow_twice, sm_two]
    obtain ⟨c, hc⟩ : ∃ c, c = b / 2 := ⟨_, rfl⟩
    have i0 := ih c j (by omega) (by omega)
    have i1 := ih c (h + j) (by omega) (by omega)
    have hx0 : ∀ q, 2 * q * h + j = q * (2 * h) + j := fun q => by rw [Nat.mul_comm 2 q, Nat.mul_assoc]
    have hx1 : ∀ q, (2 * q + 1) * h + j = q * (2 * h) + (h + j) := fun q => by rw [Nat.add_mul, Nat.mul_comm 2 q, Nat.mul_assoc, Nat.one_mul, Nat.add_assoc]
    have hs0 : ∀ q, sgw (r + 1) (2 * q) b = sgw r q c := fun q => by
      rw [sgw_step, show 2 * q / 2 = q by omega, show 2 * q % 2 = 0 by omega, ← hc]; simp
    unfold nw wmf
    rcases Nat.mod_two_eq_zero_or_one b with hb2 | hb2
    · have eb : b * h + j = c * (2 * h) + j := by rw [show b = 2 * c by omega]; exact hx0 c
      have em : (c * (2 * h) + j) % (2 * h) = j := by rw [Nat.mul_comm c, Nat.mul_add_mod, Nat.mod_eq_of_lt (by omega)]
      have hs1 : ∀ q, sgw (r + 1) (2 * q + 1) b = sgw r q c := fun q => by
        rw [sgw_step, show (2 * q + 1) / 2 = q by omega, ← hc, hb2]; simp
      rw [eb, em, if_pos hj]
      show trf wmf (2 ^ m) xs r (c * (2 * h) + j) + trf wmf (2 ^ m) xs r (c * (2 * h) + j + h) = _
      rw [show c * (2 * h) + j + h = c * (2 * h) + (h + j) by omega, i0, i1, ← sm_add]
      refine sm_congr _ (fun q _ => ?_)
      rw [hs0, hs1, hx0, hx1]
    · have eb : b * h + j = c * (2 * h) + (h + j) := by rw [show b = 2 * c + 1 by omega]; exact hx1 c
      have em : (c * (2 * h) + (h + j)) % (2 * h) = h + j := by rw [Nat.mul_comm c, Nat.mul_add_mod, Nat.mod_eq_of_lt (by omega)]
      have hs1 : ∀ q, sgw (r + 1) (2 * q + 1) b = -sgw r q c := fun q => by
        rw [sgw_step, show (2 * q + 1) / 2 = q by omega, ← hc, hb2, show (2 * q + 1) % 2 = 1 by omega]; simp
      rw [eb, em, if_neg (by omega)]
      show trf wmf (2 ^ m) xs r (c * (2 * h) + (h + j) - h) - trf wmf (2 ^ m) xs r (c * (2 * h) + (h + j)) = _
      rw [show c * (2 * h) + (h + j) - h = c * (2 * h) + j by omega, i0, i1, ← sm_sub]
      refine sm_congr _ (fun q _ => ?_)
      rw [hs0, hs1, hx0, hx1, Int.mul_neg, Int.sub_eq_add_neg]

/-- What Walsh tells. -/
def wlv (m : Nat) (xs : Nat → Int) (k : Nat) : Int := sm (fun i => xs i * sgw m i k) (2 ^ m)

theorem walsh_whole {m : Nat} {xs : Nat → Int} {k : Nat} (hk : k < 2 ^ m) : trf wmf (2 ^ m) xs m k = wlv m xs k := by
  have h := walsh_halves (m := m) (xs := xs) m (Nat.le_refl _) k 0 (by rw [Nat.sub_self, Nat.pow_zero]; omega) hk
  rw [Nat.sub_self, Nat.pow_zero, Nat.mul_one, Nat.add_zero] at h
  rw [h]
  unfold wlv
  refine sm_congr _ (fun q _ => ?_)
  rw [Nat.mul_one, Nat.add_zero]

theorem sgw_bound (m i k : Nat) (x : Int) (hx : Smp x) : -1000000000 ≤ x * sgw m i k ∧ x * sgw m i k ≤ 1000000000 := by
  unfold sgw
  unfold Smp at hx
  split <;> omega

/-- Every sum on the way has room. -/
theorem wl_bound {m : Nat} {xs : Nat → Int} {n k : Nat} (hx : ∀ i, i < n → Smp (xs i)) : ∀ j, j ≤ n → -1000000000 * (j : Int) ≤ sm (fun i => xs i * sgw m i k) j ∧ sm (fun i => xs i * sgw m i k) j ≤ 1000000000 * (j : Int)
  | 0, _ => by simp [sm]
  | j + 1, hj => by
    have h1 := wl_bound (m := m) (k := k) hx j (by omega)
    have h2 := sgw_bound m j k (xs j) (hx j (by omega))
    unfold sm
    omega
end Go.Proofs.Ytfmllgohmlocoaa
