/- Woven places in plain numbers. -/
import Derived.Test.YtgahjkijmihmdaaAW
namespace Go.Proofs.Ytgahjkijmihmdaa
open Go.RowKit

theorem made_zero (k : Nat) : (madeCells (Value.int .i64 0).cells (k * 1)).toList = ils (fun _ => 0) k := by
  apply List.ext_getElem?
  intro i
  by_cases h : i < k
  · rw [ils_get h]
    simp [madeCells, Value.cells, h, Nat.mod_one]
  · rw [List.getElem?_eq_none (by rw [Array.length_toList, size_madeCells]; omega), List.getElem?_eq_none (by rw [ils_length]; omega)]

/-- A list of noughts made. -/
def mkd (W : World) (k : Nat) : World := W.alloc (.cells (madeCells (Value.int .i64 0).cells (k * 1)) 3)

theorem mkd_run (W : World) {k : Nat} (hk : k ≤ 1048576) : (Instr.makeSlice 24 (.int .i64 (k : Int)) (.int .i64 (k : Int))).run Try.prog W = .ok (.slice (some ⟨W.heap.size, 0, none⟩) k k) (mkd W k) := by
  obtain ⟨i0, hi, hz0, hz1, hz2⟩ := info_parts Try.info3
  have h := run_make (P := Try.prog) W 24 3 i0 (.int .i64 0) Try.underlying24 hi hz0 .i64 .i64 k k (by omega) (Int.le_refl _) (by rw [hz2]; omega) (by omega)
  rw [Int.toNat_natCast, hz1] at h
  exact h

theorem mkd_own (W : World) {B k : Nat} (hk : k ≤ 1048576) (hB : B ≤ W.heap.size) : (mkd W k).ownsRow B 3 1 (.slice (some ⟨W.heap.size, 0, none⟩) k k) k (ils (fun _ => 0) k) := by
  have h := World.ownsRow_lit (base := B) (e := 3) (size := 1) W (madeCells (Value.int .i64 0).cells (k * 1)) k hB (by unfold maxLen; omega) (size_madeCells _ _)
  rw [made_zero] at h
  exact h

theorem mkd_below (W : World) (k : Nat) : Below W.heap.size W (mkd W k) := below_one _ _

theorem mkd_size (W : World) (k : Nat) : (mkd W k).heap.size = W.heap.size + 1 := Array.size_push _

/-- A column of places, down to row i. -/
def wpl (L n k : Nat) : Nat → List Nat
  | 0 => []
  | i + 1 => if i * L + k < n then wpl L n k i ++ [i * L + k] else wpl L n k i

/-- The first columns. -/
def wcl (L n r : Nat) : Nat → List Nat
  | 0 => []
  | k + 1 => wcl L n r k ++ wpl L n k r

/-- How long a row is. -/
def wln (n r : Nat) : Nat := (n + r - 1) / r

/-- All places in the order in which they are woven. -/
def wov (n r : Nat) : List Nat := wcl (wln n r) n r (wln n r)

/-- A list as a function. -/
def plf (l : List Nat) (j : Nat) : Int := ((l.getD j 0 : Nat) : Int)

theorem ils_plf_snoc (l : List Nat) (x : Nat) : ils (plf (l ++ [x])) (l.length + 1) = ils (plf l) l.length ++ [.int .i64 (x : Int)] := by
  rw [ils_snoc]
  congr 1
  · refine ils_congr fun k hk => ?_
    unfold plf
    rw [List.getD_eq_getElem?_getD, List.getD_eq_getElem?_getD, List.getElem?_append_left hk]
  · unfold plf
    rw [List.getD_eq_getElem?_getD, List.getElem?_append_right (Nat.le_refl _), Nat.sub_self]
    rfl

theorem own_plf {w : World} {B : Nat} {v : Value} {l : List Nat} {x : Nat} (h : w.ownsRow B 3 1 v (l.length + 1) (ils (plf l) l.length ++ [.int .i64 (x : Int)])) : w.ownsRow B 3 1 v (l ++ [x]).length (ils (plf (l ++ [x])) (l ++ [x]).length) := by
  rw [List.length_append, List.length_singleton, ils_plf_snoc]
  exact h

/-- Sums. -/
def su (f : Nat → Nat) : Nat → Nat
  | 0 => 0
  | a + 1 => su f a + f a

theorem su_add (f g : Nat → Nat) (a : Nat) : su (fun i => f i + g i) a = su f a + su g a := by
  induction a with
  | zero => rfl
  | succ a ih => rw [su, su, su, ih]; omega

theorem su_zero (a : Nat) : su (fun _ => 0) a = 0 := by
  induction a with
  | zero => rfl
  | succ a ih => rw [su, ih]

theorem su_swap (f : Nat → Nat → Nat) (a r : Nat) : su (fun k => su (fun i => f i k) r) a = su (fun i => su (fun k => f i k) a) r := by
  induction a with
  | zero => exact (su_zero r).symm
  | succ a ih =>
    rw [su, ih, ← su_add]
    rfl

theorem su_congr {f g : Nat → Nat} (a : Nat) (h : ∀ i, i < a → f i = g i) : su f a = su g a := by
  induction a with
  | zero => rfl
  | succ a ih => rw [su, su, ih (fun i hi => h i (by omega)), h a (by omega)]

def ind (L n i k : Nat) : Nat := if i * L + k < n then 1 else 0

theorem wpl_len (L n k r : Nat) : (wpl L n k r).length = su (fun i => ind L n i k) r := by
  induction r with
  | zero => rfl
  | succ r ih =>
    rw [wpl, su, ← ih]
    unfold ind
    split
    · rw [List.length_append, List.length_singleton]
    · rw [Nat.add_zero]

theorem wcl_len (L n r a : Nat) : (wcl L n r a).length = su (fun k => su (fun i => ind L n i k) r) a := by
  induction a with
  | zero => rfl
  | succ a ih => rw [wcl, su, List.length_append, ih, wpl_len]

theorem row_len (L n i a : Nat) : su (fun k => ind L n i k) a = min a (n - i * L) := by
  induction a with
  | zero => rw [su]; omega
  | succ a ih =>
    rw [su, ih]
    unfold ind
    split
    · omega
    · omega

theorem rows_len (L n r : Nat) : su (fun i => min L (n - i * L)) r = min n (r * L) := by
  induction r with
  | zero => rw [su]; omega
  | succ r ih => rw [su, ih, Nat.succ_mul]; omega

theorem wln_le {n r : Nat} (_ : 0 < r) : wln n r * r ≤ n + r - 1 := Nat.div_mul_le_self _ _

theorem wln_ge {n r : Nat} (hr : 0 < r) : n ≤ r * wln n r := by
  have h := Nat.div_add_mod (n + r - 1) r
  have h2 := Nat.mod_lt (n + r - 1) hr
  unfold wln
  omega

theorem wov_len {n r : Nat} (hr : 0 < r) : (wov n r).length = n := by
  unfold wov
  rw [wcl_len, su_swap, su_congr r (fun i _ => row_len _ _ i _), rows_len]
  have := wln_ge (n := n) hr
  omega

theorem mem_wpl {L n k r m : Nat} : m ∈ wpl L n k r ↔ ∃ i, i < r ∧ m = i * L + k ∧ m < n := by
  induction r with
  | zero => exact ⟨fun h => (nomatch h), fun ⟨i, hi, _⟩ => absurd hi (by omega)⟩
  | succ r ih =>
    rw [wpl]
    split
    · rename_i hc
      rw [List.mem_append, List.mem_singleton, ih]
      constructor
      · rintro (⟨i, hi, h1, h2⟩ | rfl)
        · exact ⟨i, by omega, h1, h2⟩
        · exact ⟨r, by omega, rfl, hc⟩
      · rintro ⟨i, hi, h1, h2⟩
        by_cases h3 : i = r
        · subst h3; exact .inr h1
        · exact .inl ⟨i, by omega, h1, h2⟩
    · rename_i hc
      rw [ih]
      constructor
      · rintro ⟨i, hi, h1, h2⟩
        exact ⟨i, by omega, h1, h2⟩
      · rintro ⟨i, hi, h1, h2⟩
        by_cases h3 : i = r
        · subst h3; exact absurd (h1 ▸ h2) hc
        · exact ⟨i, by omega, h1, h2⟩

theorem mem_wcl {L n r a m : Nat} : m ∈ wcl L n r a ↔ ∃ k i, k < a ∧ i < r ∧ m = i * L + k ∧ m < n := by
  induction a with
  | zero => exact ⟨fun h => (nomatch h), fun ⟨k, i, hk, _⟩ => absurd hk (by omega)⟩
  | succ a ih =>
    rw [wcl, List.mem_append, ih, mem_wpl]
    constructor
    · rintro (⟨k, i, hk, h1⟩ | ⟨i, hi, h1, h2⟩)
      · exact ⟨k, i, by omega, h1⟩
      · exact ⟨a, i, by omega, hi, h1, h2⟩
    · rintro ⟨k, i, hk, hi, h1, h2⟩
      by_cases h3 : k = a
      · subst h3; exact .inr ⟨i, hi, h1, h2⟩
      · exact .inl ⟨k, i, by omega, hi, h1, h2⟩

theorem wov_all {n r m : Nat} (hr : 0 < r) (hm : m < n) : m ∈ wov n r := by
  have hL : 0 < wln n r := by
    rcases Nat.eq_zero_or_pos (wln n r) with h | h
    · have := wln_ge (n := n) hr; rw [h] at this; omega
    · exact h
  refine mem_wcl.2 ⟨m % wln n r, m / wln n r, Nat.mod_lt _ hL, ?_, ?_, hm⟩
  · rw [Nat.div_lt_iff_lt_mul hL]
    exact Nat.lt_of_lt_of_le hm (wln_ge hr)
  · have := Nat.div_add_mod m (wln n r)
    rw [Nat.mul_comm] at this
    omega

/-- The j-th place. -/
def pla (n r j : Nat) : Nat := (wov n r).getD j 0

theorem pla_lt {n r j : Nat} (hr : 0 < r) (hj : j < n) : pla n r j < n := by
  have hl := wov_len (n := n) hr
  have hm : pla n r j ∈ wov n r := by
    unfold pla
    rw [List.getD_eq_getElem?_getD, List.getElem?_eq_getElem (by omega)]
    exact List.getElem_mem _
  obtain ⟨k, i, _, _, _, h⟩ := mem_wcl.1 hm
  exact h

theorem pla_all {n r m : Nat} (hr : 0 < r) (hm : m < n) : ∃ j, j < n ∧ pla n r j = m := by
  obtain ⟨j, hj, he⟩ := List.getElem_of_mem (wov_all hr hm)
  have hl := wov_len (n := n) hr
  refine ⟨j, by omega, ?_⟩
  unfold pla
  rw [List.getD_eq_getElem?_getD, List.getElem?_eq_getElem hj, he]
  rfl

theorem plf_wov (n r j : Nat) : plf (wov n r) j = ((pla n r j : Nat) : Int) := rfl

/-- What is woven, and what is woven back. -/
def wvf (n r : Nat) (xs : Nat → Int) (j : Nat) : Int := xs (pla n r j)

def uwf (n r : Nat) (xs : Nat → Int) : Nat → Nat → Int
  | 0, _ => 0
  | j + 1, i => if i = pla n r j then xs j else uwf n r xs j i

theorem uwf_at {n r : Nat} {xs ys : Nat → Int} (_ : 0 < r) (h : ∀ j, j < n → xs j = ys (pla n r j)) (a : Nat) (ha : a ≤ n) (j : Nat) (hj : j < a) : uwf n r xs a (pla n r j) = ys (pla n r j) := by
  induction a with
  | zero => omega
  | succ a ih =>
    rw [uwf]
    by_cases h1 : pla n r j = pla n r a
    · rw [if_pos h1, h1]; exact h a (by omega)
    · rw [if_neg h1]
      refine ih (by omega) ?_
      by_cases h2 : j = a
      · subst h2; exact absurd rfl h1
      · omega

/-- Woven and woven back a list is itself. -/
theorem uwf_wvf {n r m : Nat} (hr : 0 < r) (hm : m < n) (xs : Nat → Int) : uwf n r (wvf n r xs) n m = xs m := by
  obtain ⟨j, hj, rfl⟩ := pla_all hr hm
  exact uwf_at (ys := xs) hr (fun _ _ => rfl) n (Nat.le_refl _) j hj

/-- Good for Weave. -/
abbrev GWv (n : Nat) (r : Int) : Prop := n ≤ 1024 ∧ 1 ≤ r ∧ r ≤ 64
end Go.Proofs.Ytgahjkijmihmdaa
