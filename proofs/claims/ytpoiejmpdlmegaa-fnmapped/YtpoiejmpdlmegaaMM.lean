/- Levels and points in plain numbers. -/
import Derived.Test.YtpoiejmpdlmegaaAI
import Derived.Test.YtpoiejmpdlmegaaGR
import Derived.Test.YtpoiejmpdlmegaaPA
namespace Go.Proofs.Ytpoiejmpdlmegaa
open Go.RowKit

/-- A list of bits as plain numbers. -/
def nb (xs : Nat → Int) (k : Nat) : Nat := (xs k).toNat

/-- The number of c bits from f on, the highest first; behind the n-th there are noughts. -/
def nba (n : Nat) (xs : Nat → Int) (f : Nat) : Nat → Nat
  | 0 => 0
  | c + 1 => nba n xs f c * 2 + (if f + c < n then nb xs (f + c) else 0)

theorem nb_le {n : Nat} {xs : Nat → Int} (h : ∀ k, k < n → Bit (xs k)) {k : Nat} (hk : k < n) : nb xs k ≤ 1 := by
  unfold nb
  rcases h k hk with e | e <;> rw [e] <;> decide

theorem nb_eq {n : Nat} {xs : Nat → Int} (h : ∀ k, k < n → Bit (xs k)) {k : Nat} (hk : k < n) : xs k = ((nb xs k : Nat) : Int) := by
  unfold nb
  rcases h k hk with e | e <;> rw [e] <;> rfl

theorem nba_lt {n : Nat} {xs : Nat → Int} (h : ∀ k, k < n → Bit (xs k)) (f c : Nat) : nba n xs f c < 2 ^ c := by
  induction c with
  | zero => show 0 < 1; omega
  | succ c ih =>
    rw [nba, Nat.pow_succ]
    split
    · rename_i hk
      have := nb_le h hk
      omega
    · omega

/-- A level's place. -/
def lvl (n : Nat) (xs : Nat → Int) (f h : Nat) : Int := 2 * ((ung (nba n xs f h) : Nat) : Int) - (2 ^ h - 1)

/-- The points, number by number. -/
def mpz (n : Nat) (xs : Nat → Int) (h : Nat) (i : Nat) : Int := if i % 2 = 0 then lvl n xs (i / 2 * (2 * h)) h else lvl n xs (i / 2 * (2 * h) + h) h

theorem mpz_0 (n : Nat) (xs : Nat → Int) (h k : Nat) : mpz n xs h (k * 2) = lvl n xs (k * (2 * h)) h := by
  unfold mpz
  rw [if_pos (by omega), show k * 2 / 2 = k by omega]

theorem mpz_1 (n : Nat) (xs : Nat → Int) (h k : Nat) : mpz n xs h (k * 2 + 1) = lvl n xs (k * (2 * h) + h) h := by
  unfold mpz
  rw [if_neg (by omega), show (k * 2 + 1) / 2 = k by omega]

theorem mpz_snoc (n : Nat) (xs : Nat → Int) (h k : Nat) {x y : Int} (hx : x = lvl n xs (k * (2 * h)) h) (hy : y = lvl n xs (k * (2 * h) + h) h) : ils (mpz n xs h) (k * 2) ++ [.int .i64 x, .int .i64 y] = ils (mpz n xs h) ((k + 1) * 2) := by
  rw [show (k + 1) * 2 = k * 2 + 1 + 1 by omega, ils_snoc, ils_snoc, mpz_0, mpz_1, ← hx, ← hy, List.append_assoc]
  rfl

/-- Half a width. -/
abbrev Hlf (h : Nat) : Prop := h = 1 ∨ h = 2 ∨ h = 3 ∨ h = 4
/-- A width. -/
abbrev Wid (x : Int) : Prop := x = 2 ∨ x = 4 ∨ x = 6 ∨ x = 8

theorem hlf_pow {h : Nat} (hh : Hlf h) : (2 : Nat) ^ h ≤ 16 ∧ (2 : Nat) ≤ 2 ^ h := by
  rcases hh with rfl | rfl | rfl | rfl <;> decide

theorem two_new (w : World) (a b : Value) (t : TypeId) : ∀ j u, [a, b][j]? = some u → (w.alloc (.cells #[a, b] t)).cell? ((⟨w.heap.size, 0, none⟩ : Addr).add j) = some u := by
  intro j u h
  match j, h with
  | 0, h => simp at h; subst h; simp [Addr.add]
  | 1, h => simp at h; subst h; simp [Addr.add]
  | n + 2, h => simp at h

/-- The bits, filled with noughts. -/
def pad (n : Nat) (xs : Nat → Int) (i : Nat) : Int := if i < n then xs i else 0

theorem pad_bit {n : Nat} {xs : Nat → Int} (h : ∀ k, k < n → Bit (xs k)) (i : Nat) : Bit (pad n xs i) := by
  unfold pad
  split
  · exact h _ (by assumption)
  · exact .inl rfl

theorem nba_cut {n h : Nat} {xs : Nat → Int} (f c : Nat) (hc : c ≤ h) : nba h (fun j => pad n xs (f + j)) 0 c = nba n xs f c := by
  induction c with
  | zero => rfl
  | succ c ih =>
    rw [nba, nba, ih (by omega), if_pos (by omega)]
    congr 1
    rw [Nat.zero_add]
    show (if f + c < n then xs (f + c) else 0).toNat = if f + c < n then (xs (f + c)).toNat else 0
    by_cases h1 : f + c < n
    · rw [if_pos h1, if_pos h1]
    · rw [if_neg h1, if_neg h1]; rfl
end Go.Proofs.Ytpoiejmpdlmegaa
