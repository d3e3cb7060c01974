/- Bits as bytes, in plain numbers. -/
import Derived.Test.YtgahjkijmihmdaaBT
import Derived.Test.YtgahjkijmihmdaaBY
namespace Go.Proofs.Ytgahjkijmihmdaa
open Go.RowKit

/-- A list of bits as plain numbers. -/
def nb (xs : Nat → Int) (k : Nat) : Nat := (xs k).toNat

/-- The number of c bits from f on, the highest first; behind the n-th there are noughts. -/
def nba (n : Nat) (xs : Nat → Int) (f : Nat) : Nat → Nat
  | 0 => 0
  | c + 1 => nba n xs f c * 2 + (if f + c < n then nb xs (f + c) else 0)

theorem nb_le {n : Nat} {xs : Nat → Int} (h : ∀ k, k < n → Bit (xs k)) {k : Nat} (hk : k < n) : nb xs k ≤ 1 := by
  unfold nb
  rcases h k hk with e | e <;> rw [e] <;> decide

theorem nb_eq {n : Nat} {xs : Nat → Int} (h : ∀ k, k < n → Bit (xs k)) {k : Nat} (hk : k < n) : xs k = ((nb xs k : Nat) : Int) := by
  unfold nb
  rcases h k hk with e | e <;> rw [e] <;> rfl

theorem nba_lt {n : Nat} {xs : Nat → Int} (h : ∀ k, k < n → Bit (xs k)) (f c : Nat) : nba n xs f c < 2 ^ c := by
  induction c with
  | zero => show 0 < 1; omega
  | succ c ih =>
    rw [nba, Nat.pow_succ]
    split
    · rename_i hk
      have := nb_le h hk
      omega
    · omega

/-- The bytes as they are put together bit by bit. -/
def pkb (xs : Nat → Int) : Nat → Nat → Nat
  | 0, _ => 0
  | i + 1, t => if t = i / 8 then pkb xs i t ||| nb xs i * 2 ^ (7 - i % 8) else pkb xs i t

theorem or_add {a b k : Nat} (hb : b < 2 ^ k) : a * 2 ^ k ||| b = a * 2 ^ k + b := by
  have h := Nat.two_pow_add_eq_or_of_lt (i := k) (b := b) hb a
  rw [Nat.mul_comm] at h
  exact h.symm

theorem pkb_low {xs : Nat → Int} {t : Nat} (i : Nat) (h : i ≤ 8 * t) : pkb xs i t = 0 := by
  induction i with
  | zero => rfl
  | succ i ih => rw [pkb, if_neg (by omega), ih (by omega)]

theorem pkb_mid {n : Nat} {xs : Nat → Int} (hb : ∀ k, k < n → Bit (xs k)) {t : Nat} (c : Nat) (hc : c ≤ 8) (hn : 8 * t + c ≤ n) : pkb xs (8 * t + c) t = nba n xs (8 * t) c * 2 ^ (8 - c) := by
  induction c with
  | zero => rw [Nat.add_zero, pkb_low _ (Nat.le_refl _), nba, Nat.zero_mul]
  | succ c ih =>
    have hk : 8 * t + c < n := by omega
    have h1 := nb_le hb hk
    show pkb xs ((8 * t + c) + 1) t = _
    rw [pkb, if_pos (by omega), ih (by omega) (by omega), nba, if_pos hk, show (8 * t + c) % 8 = c by omega, show 8 - c = (7 - c) + 1 by omega, show 8 - (c + 1) = 7 - c by omega]
    generalize nba n xs (8 * t) c = a
    have h2 : a * 2 ^ (7 - c + 1) = a * 2 * 2 ^ (7 - c) := by rw [Nat.pow_succ, Nat.mul_assoc, Nat.mul_comm 2]
    have h3 : nb xs (8 * t + c) * 2 ^ (7 - c) < 2 ^ (7 - c + 1) := by
      have := Nat.mul_le_mul_right (2 ^ (7 - c)) h1
      have := Nat.two_pow_pos (7 - c)
      rw [Nat.pow_succ]; omega
    rw [or_add h3, h2, Nat.add_mul]

theorem pkb_high {xs : Nat → Int} {t : Nat} (i : Nat) (h : 8 * t + 8 ≤ i) : pkb xs i t = pkb xs (8 * t + 8) t := by
  induction i with
  | zero => omega
  | succ i ih =>
    by_cases h1 : 8 * t + 8 = i + 1
    · rw [h1]
    · rw [pkb, if_neg (by omega), ih (by omega)]

theorem nba_more {n : Nat} {xs : Nat → Int} {f c : Nat} (h : n ≤ f + c) (d : Nat) : nba n xs f (c + d) = nba n xs f c * 2 ^ d := by
  induction d with
  | zero => rw [Nat.add_zero, Nat.pow_zero, Nat.mul_one]
  | succ d ih =>
    show nba n xs f ((c + d) + 1) = _
    rw [nba, if_neg (by omega), ih, Nat.add_zero, Nat.pow_succ, Nat.mul_assoc]

/-- Both ways come to the same byte. -/
theorem pkb_nba {n : Nat} {xs : Nat → Int} (hb : ∀ k, k < n → Bit (xs k)) {t : Nat} (ht : 8 * t ≤ n) : pkb xs n t = nba n xs (8 * t) 8 := by
  by_cases h : 8 * t + 8 ≤ n
  · rw [pkb_high n h, pkb_mid hb 8 (Nat.le_refl _) h, Nat.sub_self, Nat.pow_zero, Nat.mul_one]
  · obtain ⟨c, rfl⟩ : ∃ c, n = 8 * t + c := ⟨n - 8 * t, by omega⟩
    rw [pkb_mid hb c (by omega) (Nat.le_refl _)]
    have h1 := nba_more (n := 8 * t + c) (xs := xs) (f := 8 * t) (c := c) (Nat.le_refl _) (8 - c)
    rw [show c + (8 - c) = 8 by omega] at h1
    exact h1.symm

theorem pkb_lt {n : Nat} {xs : Nat → Int} (hb : ∀ k, k < n → Bit (xs k)) (i t : Nat) (hi : i ≤ n) : pkb xs i t < 256 := by
  induction i with
  | zero => show 0 < 256; omega
  | succ i ih =>
    rw [pkb]
    split
    · have h1 := nb_le hb (show i < n by omega)
      have h2 : nb xs i * 2 ^ (7 - i % 8) ≤ 2 ^ (7 - i % 8) := by
        have := Nat.mul_le_mul_right (2 ^ (7 - i % 8)) h1
        omega
      have h3 : 2 ^ (7 - i % 8) ≤ 2 ^ 7 := Nat.pow_le_pow_right (by omega) (by omega)
      exact Nat.or_lt_two_pow (n := 8) (ih (by omega)) (by omega)
    · exact ih (by omega)

/-- What Pack8 tells. -/
def pk8 (n : Nat) (xs : Nat → Int) (t : Nat) : Int := ((nba n xs (8 * t) 8 : Nat) : Int)

/-- A bit of a row of bytes. -/
def ubv (bs : Nat → Int) (i : Nat) : Int := (bs (i / 8) / 2 ^ (7 - i % 8)) % 2

theorem ubv_bit (bs : Nat → Int) (i : Nat) : Bit (ubv bs i) := by
  unfold ubv Bit
  omega

/-- Bytes. -/
abbrev Byt (n : Nat) (bs : Nat → Int) : Prop := ∀ k, k < n → 0 ≤ bs k ∧ bs k < 256

/-- What Pack8 and Unpack8 tell. -/
def Psb (w w' : World) (e : Ending) (N : Nat) (ys : Nat → Int) (ok : Bool) : Prop := ∃ u, e = .returned (.tuple #[u, .bool ok]) ∧ w'.ownsRow w.heap.size 5 1 u N (bls ys N) ∧ Below w.heap.size w w'

theorem own_only2 {w w' w3 : World} {B3 s s2 n m g : Nat} {e e2 : TypeId} {v x : Value} {xs L : List Value} (h : w.ownsRow w3.heap.size e s v n xs) (ho : Only g w w') (hor : x.ownBlock = some g ∨ w' = w) (hx : w3.ownsRow B3 e2 s2 x m L) : w'.ownsRow w3.heap.size e s v n xs := by
  rcases hor with hg | rfl
  · exact own_only h ho (World.ownsRow.lt hx g hg).2
  · exact h
end Go.Proofs.Ytgahjkijmihmdaa
