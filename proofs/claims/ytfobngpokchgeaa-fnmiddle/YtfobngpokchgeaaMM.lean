/- Middles: lists put in order, in plain numbers. -/
import Derived.Test.YtfobngpokchgeaaC1
namespace Go.Proofs.Ytfobngpokchgeaa
open Go.RowKit

/-- The numbers of a row. -/
def ofF (f : Nat → Int) (n : Nat) : List Int := (List.range n).map f

theorem ofF_length (f : Nat → Int) (n : Nat) : (ofF f n).length = n := by simp [ofF]

theorem ofF_get (f : Nat → Int) {n i : Nat} (h : i < (ofF f n).length) : (ofF f n)[i] = f i := by simp [ofF]

theorem ils_ofF (f : Nat → Int) (n : Nat) : ils f n = (ofF f n).map (Value.int .i64) := by simp [ils, ofF]

/-- In order. -/
def leI (x y : Int) : Bool := decide (x ≤ y)

def srt (n : Nat) (f : Nat → Int) (i : Nat) : Int := ((ofF f n).mergeSort fun x y => decide (x ≤ y)).getD i 0

theorem srt_ofF (n : Nat) (f : Nat → Int) : ofF (srt n f) n = (ofF f n).mergeSort fun x y => decide (x ≤ y) := by
  apply List.ext_getElem
  · rw [ofF_length, List.length_mergeSort, ofF_length]
  · intro i h1 h2
    rw [ofF_get]
    unfold srt
    rw [List.getD, List.getElem?_eq_getElem h2]
    rfl

/-- In order among the first i. -/
def Ord (f : Nat → Int) (i : Nat) : Prop := ∀ a b, a < b → b < i → f a ≤ f b

/-- A row in order of the same numbers is the row put in order. -/
theorem srt_of {n : Nat} {f g : Nat → Int} (ho : Ord f n) (hp : (ofF f n).Perm (ofF g n)) : ∀ i, i < n → f i = srt n g i := by
  have e : ofF f n = ofF (srt n g) n := by
    rw [srt_ofF]
    refine List.Perm.eq_of_pairwise (le := fun a b => decide (a ≤ b) = true) (fun a b _ _ h1 h2 => by simp only [decide_eq_true_eq] at h1 h2; omega) ?_ (List.pairwise_mergeSort (fun a b c h1 h2 => by simp only [decide_eq_true_eq] at h1 h2 ⊢; omega) (fun a b => by simp only [Bool.or_eq_true, decide_eq_true_eq]; omega) _) (hp.trans (List.mergeSort_perm _ _).symm)
    rw [List.pairwise_iff_getElem]
    intro i j hi hj hij
    rw [ofF_get, ofF_get, decide_eq_true_eq]
    exact ho i j hij (by rw [ofF_length] at hj; exact hj)
  intro i hi
  have h1 : i < (ofF f n).length := by rw [ofF_length]; exact hi
  have h2 : i < (ofF (srt n g) n).length := by rw [ofF_length]; exact hi
  rw [← ofF_get f h1, ← ofF_get (srt n g) h2]
  simp only [e]

/-- Two neighbours exchanged. -/
def swp (f : Nat → Int) (k i : Nat) : Int := if i = k - 1 then f k else if i = k then f (k - 1) else f i

theorem swp_put (f : Nat → Int) (n k : Nat) (_ : 0 < k) : ((ils f n).set k (.int .i64 (f (k - 1)))).set (k - 1) (.int .i64 (f k)) = ils (swp f k) n := by
  rw [ils_put, ils_put]
  exact ils_congr fun i _ => rfl

theorem swp_perm (f : Nat → Int) {n k : Nat} (h0 : 0 < k) (hk : k < n) : (ofF (swp f k) n).Perm (ofF f n) := by
  have h1 : k < (ofF f n).length := by rw [ofF_length]; exact hk
  have h2 : k - 1 < (ofF f n).length := by rw [ofF_length]; omega
  have e : ofF (swp f k) n = ((ofF f n).set k (ofF f n)[k - 1]).set (k - 1) (ofF f n)[k] := by
    rw [ofF_get, ofF_get]
    apply List.ext_getElem
    · simp [ofF]
    · intro i _ _
      rw [ofF_get, List.getElem_set, List.getElem_set, ofF_get]
      · unfold swp
        by_cases q1 : i = k - 1
        · rw [if_pos q1, if_pos (show k - 1 = i from q1.symm)]
        · rw [if_neg q1, if_neg (show ¬ k - 1 = i from fun h => q1 h.symm)]
          by_cases q2 : i = k
          · rw [if_pos q2, if_pos (show k = i from q2.symm)]
          · rw [if_neg q2, if_neg (show ¬ k = i from fun h => q2 h.symm)]
  rw [e]
  exact List.set_set_perm h1 h2

/-- In order but for the number at k, which is not above those behind it. -/
def Odr (f : Nat → Int) (i k : Nat) : Prop := (∀ a b, a < b → b ≤ i → a ≠ k → b ≠ k → f a ≤ f b) ∧ ∀ b, k < b → b ≤ i → f k ≤ f b

theorem Odr.start {f : Nat → Int} {i : Nat} (h : Ord f i) : Odr f i i := ⟨fun a b h1 h2 _ h4 => h a b h1 (by omega), fun b h1 h2 => by omega⟩

theorem Odr.swap {f : Nat → Int} {i k : Nat} (h : Odr f i k) (h0 : 0 < k) (hk : k ≤ i) (hl : f k ≤ f (k - 1)) : Odr (swp f k) i (k - 1) := by
  constructor
  · intro a b hab hb ha1 hb1
    unfold swp
    rw [if_neg ha1, if_neg hb1]
    by_cases q1 : a = k
    · rw [if_pos q1, if_neg (by omega)]
      exact h.1 (k - 1) b (by omega) hb (by omega) (by omega)
    · rw [if_neg q1]
      by_cases q2 : b = k
      · rw [if_pos q2]
        exact h.1 a (k - 1) (by omega) (by omega) q1 (by omega)
      · rw [if_neg q2]
        exact h.1 a b hab hb q1 q2
  · intro b hb1 hb2
    unfold swp
    rw [if_pos rfl, if_neg (by omega)]
    by_cases q : b = k
    · rw [if_pos q]; exact hl
    · rw [if_neg q]; exact h.2 b (by omega) hb2

theorem Odr.stop {f : Nat → Int} {i k : Nat} (h : Odr f i k) (hk : k ≤ i) (hl : k = 0 ∨ f (k - 1) ≤ f k) : Ord f (i + 1) := by
  intro a b hab hb
  by_cases q1 : a = k
  · subst q1; exact h.2 b hab (by omega)
  · by_cases q2 : b = k
    · subst q2
      have h3 := hl.resolve_left (by omega)
      by_cases q3 : a = b - 1
      · rw [q3]; exact h3
      · exact Int.le_trans (h.1 a (b - 1) (by omega) (by omega) q1 (by omega)) h3
    · exact h.1 a b hab (by omega) q1 q2

/-- The first k told, noughts behind them. -/
def upz (f : Nat → Int) (k i : Nat) : Int := if i < k then f i else 0

theorem upz_put (f : Nat → Int) (n k : Nat) : (ils (upz f k) n).set k (.int .i64 (f k)) = ils (upz f (k + 1)) n := by
  rw [ils_put]
  refine ils_congr fun i _ => ?_
  unfold upz
  by_cases h : i = k
  · subst h; rw [if_pos rfl, if_pos (by omega)]
  · rw [if_neg h]
    by_cases h1 : i < k
    · rw [if_pos h1, if_pos (by omega)]
    · rw [if_neg h1, if_neg (by omega)]

theorem upz_zero (f : Nat → Int) (n : Nat) : ils (upz f 0) n = ils (fun _ => 0) n := ils_congr fun i _ => by simp [upz]

theorem upz_full (f : Nat → Int) (n : Nat) : ils (upz f n) n = ils f n := ils_congr fun i hi => by simp [upz, hi]

theorem mmade_ils (n : Nat) : (madeCells (Value.int .i64 0).cells (n * 1)).toList = ils (fun _ => 0) n := by
  have e : (Value.int .i64 0).cells = #[.int .i64 0] := by simp [Value.cells]
  rw [e]
  apply List.ext_getElem
  · simp [madeCells, ils]
  · intro i h1 h2
    simp [madeCells, ils, Nat.mod_one]
end Go.Proofs.Ytfobngpokchgeaa
