/- Lifting in plain numbers: guesses, mends, low and high numbers, and how great they are. -/
import Derived.Test.YtbcjbighipeafaaC1
namespace Go.Proofs.Ytbcjbighipeafaa
open Go.RowKit

theorem made_zero (n : Nat) : (madeCells (Value.int .i64 0).cells (n * 1)).toList = ils (fun _ => 0) n := by
  apply List.ext_getElem?
  intro i
  by_cases h : i < n
  · rw [ils_get h]
    simp [madeCells, Value.cells, h, Nat.mod_one]
  · rw [List.getElem?_eq_none (by rw [Array.length_toList, size_madeCells]; omega), List.getElem?_eq_none (by rw [ils_length]; omega)]

/-- What is told: a list in memory of the call's own, and a bool. -/
def Pst (w w' : World) (e : Ending) (N : Nat) (ys : Nat → Int) (ok : Bool) : Prop := ∃ u, e = .returned (.tuple #[u, .bool ok]) ∧ w'.ownsRow w.heap.size 3 1 u N (ils ys N) ∧ Below w.heap.size w w'

/-- The nearest place there is. -/
def npl (n : Nat) (i : Int) : Nat := if i < 0 then 0 else if (n : Int) ≤ i then n - 1 else i.toNat

theorem npl_lt {n : Nat} {i : Int} (h : 0 < n) : npl n i < n := by
  unfold npl
  split
  · omega
  · split
    · omega
    · omega

/-- The number at the nearest place. -/
def nea (n : Nat) (xs : Nat → Int) (i : Int) : Int := xs (npl n i)

/-- A guess. -/
def gs (kind : Int) (n : Nat) (ev : Nat → Int) (i : Nat) : Int :=
  if kind = 1 then ev i else if kind = 2 then (ev i + nea n ev (i + 1)) / 2 else (9 * (ev i + nea n ev (i + 1)) - nea n ev (i - 1) - nea n ev (i + 2) + 8) / 16

/-- A mend. -/
def md (kind : Int) (m : Nat) (hs : Nat → Int) (i : Nat) : Int :=
  if m = 0 ∨ (kind = 1 ∧ m ≤ i) then 0 else if kind = 1 then hs i / 2 else (nea m hs (i - 1) + nea m hs i + 2) / 4

theorem gs_1 (n : Nat) (ev : Nat → Int) (i : Nat) : gs 1 n ev i = ev i := rfl
theorem gs_2 (n : Nat) (ev : Nat → Int) (i : Nat) : gs 2 n ev i = (ev i + nea n ev (i + 1)) / 2 := rfl
theorem gs_3 (n : Nat) (ev : Nat → Int) (i : Nat) : gs 3 n ev i = (9 * (ev i + nea n ev (i + 1)) - nea n ev (i - 1) - nea n ev (i + 2) + 8) / 16 := rfl
theorem md_0 (kind : Int) (hs : Nat → Int) (i : Nat) : md kind 0 hs i = 0 := by unfold md; rw [if_pos (.inl rfl)]
theorem md_1b {m : Nat} (hs : Nat → Int) {i : Nat} (h : m ≤ i) : md 1 m hs i = 0 := by unfold md; rw [if_pos (.inr ⟨rfl, h⟩)]
theorem md_1 {m : Nat} (hs : Nat → Int) {i : Nat} (h : i < m) : md 1 m hs i = hs i / 2 := by unfold md; rw [if_neg (by rintro (h | h) <;> omega), if_pos rfl]
theorem md_23 {kind : Int} (hk : kind ≠ 1) {m : Nat} (hs : Nat → Int) (i : Nat) (h : 0 < m) : md kind m hs i = (nea m hs (i - 1) + nea m hs i + 2) / 4 := by unfold md; rw [if_neg (by rintro (h | h) <;> omega), if_neg hk]

/-- All within M. -/
abbrev Wth (M : Int) (n : Nat) (xs : Nat → Int) : Prop := ∀ k, k < n → -M ≤ xs k ∧ xs k ≤ M

theorem nea_bounds {M : Int} {n : Nat} {xs : Nat → Int} (h : Wth M n xs) (hn : 0 < n) (i : Int) : -M ≤ nea n xs i ∧ nea n xs i ≤ M := h _ (npl_lt hn)

theorem gs_bounds {kind M : Int} {n : Nat} {ev : Nat → Int} (_ : 4 ≤ M) (h : Wth M n ev) {i : Nat} (hi : i < n) : -(2 * M) ≤ gs kind n ev i ∧ gs kind n ev i ≤ 2 * M := by
  have h0 := h i hi
  have h1 := nea_bounds h (by omega) ((i : Int) + 1)
  have h2 := nea_bounds h (by omega) ((i : Int) - 1)
  have h3 := nea_bounds h (by omega) ((i : Int) + 2)
  unfold gs
  split
  · omega
  · split <;> omega

theorem md_bounds {kind M : Int} {m : Nat} {hs : Nat → Int} (hM : 4 ≤ M) (h : Wth M m hs) (i : Nat) : -M ≤ md kind m hs i ∧ md kind m hs i ≤ M ∧ -(M + 2) ≤ 2 * md kind m hs i ∧ 2 * md kind m hs i ≤ M + 2 := by
  unfold md
  split
  · omega
  · split
    · have := h i (by omega)
      omega
    · have h1 := nea_bounds h (by omega) ((i : Int) - 1)
      have h2 := nea_bounds h (by omega) (i : Int)
      omega

/-- The even ones. -/
def evs (xs : Nat → Int) (i : Nat) : Int := xs (2 * i)

/-- The high numbers of n numbers. -/
def hiL (kind : Int) (n : Nat) (xs : Nat → Int) (i : Nat) : Int := xs (2 * i + 1) - gs kind ((n + 1) / 2) (evs xs) i

/-- The low ones. -/
def loL (kind : Int) (n : Nat) (xs : Nat → Int) (i : Nat) : Int := evs xs i + md kind (n / 2) (hiL kind n xs) i

theorem evs_with {M : Int} {n : Nat} {xs : Nat → Int} (h : Wth M n xs) : Wth M ((n + 1) / 2) (evs xs) := fun k hk => h _ (by omega)

theorem hi_with {kind M : Int} {n : Nat} {xs : Nat → Int} (hM : 4 ≤ M) (h : Wth M n xs) : Wth (3 * M) (n / 2) (hiL kind n xs) := fun k hk => by
  have h1 := h (2 * k + 1) (by omega)
  have h2 := gs_bounds (kind := kind) hM (evs_with h) (i := k) (by omega)
  unfold hiL
  omega

theorem lo_with {kind M : Int} {n : Nat} {xs : Nat → Int} (hM : 4 ≤ M) (h : Wth M n xs) : Wth (3 * M) ((n + 1) / 2) (loL kind n xs) := fun k hk => by
  have h1 := evs_with h k hk
  have h2 := md_bounds (kind := kind) (by omega) (hi_with (kind := kind) hM h) k
  unfold loL
  omega

/-- The even ones back. -/
def bev (kind : Int) (m : Nat) (lo hs : Nat → Int) (i : Nat) : Int := lo i - md kind m hs i

/-- What is lifted back of n low and m high ones. -/
def bck (kind : Int) (n m : Nat) (lo hs : Nat → Int) (k : Nat) : Int := if k % 2 = 0 then bev kind m lo hs (k / 2) else hs (k / 2) + gs kind n (bev kind m lo hs) (k / 2)

theorem bck_even (kind : Int) (n m : Nat) (lo hs : Nat → Int) (i : Nat) : bck kind n m lo hs (2 * i) = bev kind m lo hs i := by
  unfold bck; rw [if_pos (by omega), show 2 * i / 2 = i by omega]

theorem bck_odd (kind : Int) (n m : Nat) (lo hs : Nat → Int) (i : Nat) : bck kind n m lo hs (2 * i + 1) = hs i + gs kind n (bev kind m lo hs) i := by
  unfold bck; rw [if_neg (by omega), show (2 * i + 1) / 2 = i by omega]

theorem bev_with {kind M : Int} {n m : Nat} {lo hs : Nat → Int} (hM : 4 ≤ M) (hl : Wth M n lo) (hh : Wth M m hs) : Wth (2 * M) n (bev kind m lo hs) := fun k hk => by
  have h1 := hl k hk
  have h2 := md_bounds (kind := kind) hM hh k
  unfold bev
  omega

theorem bck_with {kind M : Int} {n m : Nat} {lo hs : Nat → Int} (hM : 4 ≤ M) (hl : Wth M n lo) (hh : Wth M m hs) (hmn : m ≤ n) (hnm : n ≤ m + 1) : Wth (5 * M) (n + m) (bck kind n m lo hs) := fun k hk => by
  unfold bck
  split
  · have := bev_with (kind := kind) hM hl hh (k / 2) (by omega)
    omega
  · have h1 := hh (k / 2) (by omega)
    have h2 := gs_bounds (kind := kind) (by omega) (bev_with (kind := kind) hM hl hh) (i := k / 2) (by omega)
    omega

/-- Kinds there are. -/
abbrev Knd (kind : Int) : Prop := 1 ≤ kind ∧ kind ≤ 3

/-- Low ahead of high. -/
def lft (kind : Int) (n : Nat) (xs : Nat → Int) (k : Nat) : Int := if k < (n + 1) / 2 then loL kind n xs k else hiL kind n xs (k - (n + 1) / 2)

theorem lft_with {kind M : Int} {n : Nat} {xs : Nat → Int} (hM : 4 ≤ M) (h : Wth M n xs) : Wth (3 * M) n (lft kind n xs) := fun k hk => by
  unfold lft
  split
  · exact lo_with hM h _ (by assumption)
  · exact hi_with hM h _ (by omega)

/-- How many are lifted at level j. -/
def lnt (n : Nat) : Nat → Nat
  | 0 => n
  | j + 1 => (lnt n j + 1) / 2

/-- What stands behind j levels. -/
def stL (kind : Int) (n : Nat) (xs : Nat → Int) : Nat → Nat → Int
  | 0 => xs
  | j + 1 => fun i => if i < lnt n j then lft kind (lnt n j) (stL kind n xs j) i else stL kind n xs j i

theorem lnt_le (n j : Nat) : lnt n j ≤ n := by
  induction j with
  | zero => exact Nat.le_refl _
  | succ j ih => unfold lnt; omega

theorem stL_with {kind M : Int} {n : Nat} {xs : Nat → Int} (hM : 4 ≤ M) (h : Wth M n xs) : ∀ j, Wth (3 ^ j * M) n (stL kind n xs j)
  | 0 => by simpa [stL] using h
  | j + 1 => fun k hk => by
    have ih := stL_with (kind := kind) hM h j
    have h1 : (1 : Int) ≤ 3 ^ j := Int.pow_pos (by decide)
    have h2 : M ≤ 3 ^ j * M := by
      have := Int.mul_le_mul_of_nonneg_right h1 (show 0 ≤ M by omega)
      omega
    have e : (3 : Int) ^ (j + 1) * M = 3 * (3 ^ j * M) := by rw [Int.pow_succ]; grind
    rw [e]
    unfold stL
    split
    · exact lft_with (by omega) (fun k hk => ih k (Nat.lt_of_lt_of_le hk (lnt_le n j))) k (by assumption)
    · have := ih k hk
      omega
end Go.Proofs.Ytbcjbighipeafaa
