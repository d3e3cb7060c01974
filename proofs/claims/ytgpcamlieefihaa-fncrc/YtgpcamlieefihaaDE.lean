/- Lists that differ in one byte. -/
import Derived.Test.YtgpcamlieefihaaCM
namespace Go.Proofs.Ytgpcamlieefihaa
open Go.RowKit

theorem xor_odd (x : Nat) (h : x % 2 = 0) : (x ^^^ 4129) % 2 = 1 := by
  have := Nat.xor_mod_two_pow (a := x) (b := 4129) (n := 1)
  rw [show (2 : Nat) ^ 1 = 2 from rfl, h, show 4129 % 2 = 1 from rfl, Nat.zero_xor] at this
  exact this

theorem xor_back (a b : Nat) : (a ^^^ b) ^^^ b = a := by rw [Nat.xor_assoc, Nat.xor_self, Nat.xor_zero]
theorem xor_front (a b : Nat) : a ^^^ (a ^^^ b) = b := by rw [← Nat.xor_assoc, Nat.xor_self, Nat.zero_xor]

theorem cst_inj {a b : Nat} (ha : a < 65536) (hb : b < 65536) (h : cst a = cst b) : a = b := by
  by_cases h1 : 32768 ≤ a
  · by_cases h2 : 32768 ≤ b
    · rw [cst_high h1, cst_high h2] at h
      have e := congrArg (fun z => z ^^^ 4129) h
      simp only [xor_back] at e
      omega
    · rw [cst_high h1, cst_low h2] at h
      have := xor_odd (2 * a % 65536) (by omega)
      omega
  · by_cases h2 : 32768 ≤ b
    · rw [cst_low h1, cst_high h2] at h
      have := xor_odd (2 * b % 65536) (by omega)
      omega
    · rw [cst_low h1, cst_low h2] at h
      omega

theorem crb_inj (k : Nat) {a b : Nat} (ha : a < 65536) (hb : b < 65536) (h : crb k a = crb k b) : a = b := by
  induction k with
  | zero => exact h
  | succ k ih => exact ih (cst_inj (crb_lt k ha) (crb_lt k hb) h)

/-- Lists that differ in one byte have other numbers. -/
theorem crc_ne {n k : Nat} {xs ys : Nat → Int} (hx : Byt n xs) (hy : Byt n ys) (hk : k < n) (hne : xs k ≠ ys k) (he : ∀ i, i ≠ k → xs i = ys i) : crc xs n ≠ crc ys n := by
  have h0 : ∀ i, i ≤ k → crc xs i = crc ys i := by
    intro i
    induction i with
    | zero => intro _; rfl
    | succ i ih => intro hi; rw [crc_succ, crc_succ, ih (by omega), he i (by omega)]
  have h1 : ∀ j, k + 1 + j ≤ n → crc xs (k + 1 + j) ≠ crc ys (k + 1 + j) := by
    intro j
    induction j with
    | zero =>
      intro _ h
      have a1 := hx k hk
      have a2 := hy k hk
      have c1 := crc_lt hx k (by omega)
      have c2 := crc_lt hy k (by omega)
      rw [Nat.add_zero, crc_succ, crc_succ] at h
      have e := crb_inj 8 (put_lt c1 (by omega)) (put_lt c2 (by omega)) h
      rw [h0 k (Nat.le_refl _)] at e
      have e2 := congrArg (fun z => crc ys k ^^^ z) e
      simp only [xor_front] at e2
      exact hne (by omega)
    | succ j ih =>
      intro hj h
      have a1 := hx (k + 1 + j) (by omega)
      have a2 := hy (k + 1 + j) (by omega)
      have c1 := crc_lt hx (k + 1 + j) (by omega)
      have c2 := crc_lt hy (k + 1 + j) (by omega)
      rw [← Nat.add_assoc, crc_succ, crc_succ] at h
      have e := crb_inj 8 (put_lt c1 (by omega)) (put_lt c2 (by omega)) h
      rw [he (k + 1 + j) (by omega)] at e
      have e2 := congrArg (fun z => z ^^^ 256 * (ys (k + 1 + j)).toNat) e
      simp only [xor_back] at e2
      exact ih (by omega) e2
  have := h1 (n - (k + 1)) (by omega)
  rw [show k + 1 + (n - (k + 1)) = n by omega] at this
  exact this

/-- The nine digits. -/
def nine (i : Nat) : Int := (([49, 50, 51, 52, 53, 54, 55, 56, 57] : List Int).getD i 0)
theorem nine_crc : crc nine 9 = 10673 := by decide +kernel
theorem nine_byt : Byt 9 nine := by
  have h : ∀ k : Fin 9, 0 ≤ nine k.val ∧ nine k.val < 256 := by decide +kernel
  exact fun k hk => h ⟨k, hk⟩

theorem xor_u8 {a b : Nat} (ha : a < 256) (hb : b < 256) : bits .xor .u8 (a : Int) (b : Int) = ((a ^^^ b : Nat) : Int) := by
  have hx : a ^^^ b < 2 ^ 8 := Nat.xor_lt_two_pow (by omega) (by omega)
  have h1 : (BitVec.ofInt 8 (a : Int)).toNat = a := by rw [BitVec.toNat_ofInt]; omega
  have h2 : (BitVec.ofInt 8 (b : Int)).toNat = b := by rw [BitVec.toNat_ofInt]; omega
  show IntKind.u8.wrap (((BitVec.ofInt 8 (a : Int)) ^^^ (BitVec.ofInt 8 (b : Int))).toNat : Int) = _
  rw [BitVec.toNat_xor, h1, h2, IntKind.wrap_u8']
  omega
end Go.Proofs.Ytgpcamlieefihaa
