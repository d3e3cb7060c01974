/- The law of the order: what its calls answer, and how these answers stand to one another. -/
import Derived.Test.YtmoeojmnfcbdaaaDoorD4
import Derived.Test.YtmoeojmnfcbdaaaDoorC1
namespace Go.Proofs.YtmoeojmnfcbdaaaDoor
open Go.RowKit

/-- 'Called in any world with the table, function n answers v and leaves old memory as it was.' -/
def Ans (n : Nat) (args : Array Value) (v : Value) : Prop := ∀ w, Shp w → Calls Tryd.prog n args w fun e w' => e = .returned v ∧ Below w.heap.size w w'

theorem Ans.of_same {n : Nat} {args : Array Value} {v : Value} (h : ∀ w, Shp w → Calls Tryd.prog n args w fun e w' => e = .returned v ∧ w' = w) : Ans n args v :=
  fun w hs => (h w hs).mono fun _ _ h => ⟨h.1, h.2 ▸ Below.refl _ _⟩

theorem next_ans (f x : Int) (hx0 : 0 ≤ x) (hx1 : x < 18446744073709551616) : ∃ n, Ans 9 #[.int .i64 f, .int .u64 x] (.int .u64 n) := by
  rcases both_no f x hx0 hx1 with ⟨hA, hB⟩ | ⟨wd, p, t, S, D, h, q, hF, hD⟩
  · exact ⟨0, Ans.of_same fun w hs => next_bad f x w (hB w hs)⟩
  · exact ⟨_, fun w hs => next_any hF x w hs hx0 hD⟩

theorem ord_anti (S x y : Int) : ord S y x = - ord S x y ∧ (ord S x y = -1 ∨ ord S x y = 0 ∨ ord S x y = 1) := by
  unfold ord
  constructor
  · repeat' split
    all_goals omega
  · repeat' split
    all_goals omega

/-- What the law's calls answer. -/
def Facts (f x y : Int) : Prop := ∃ r r' c n d g : Int,
  Ans 6 #[.int .i64 f, .int .u64 x, .int .u64 y] (.int .i64 r) ∧ Ans 6 #[.int .i64 f, .int .u64 y, .int .u64 x] (.int .i64 r') ∧
  (∀ w, Calls Tryd.prog 7 #[.int .i64 f, .int .u64 x, .int .u64 y] w fun e w' => e = .returned (.int .i64 r) ∧ w' = w) ∧
  Ans 8 #[.int .i64 f, .int .u64 x, .int .u64 y] (.int .i64 c) ∧ Ans 9 #[.int .i64 f, .int .u64 x] (.int .u64 n) ∧
  (c = 2 ∨ (Ans 8 #[.int .i64 f, .int .u64 x, .int .u64 n] (.int .i64 d) ∧ Ans 8 #[.int .i64 f, .int .u64 y, .int .u64 n] (.int .i64 g))) ∧
  ((r = 2 ∧ r' = 2 ∧ c = 2) ∨ (r' = -r ∧ (r = -1 ∨ r = 0 ∨ r = 1) ∧ (c = 2 ∨ c = 0 ∨ c = r) ∧ ¬ (c = -1 ∧ d = -1 ∧ g = -1)))

theorem compare_ans {f wd p t S D h q : Int} (hF : Frm f wd p t S D h q) (x y : Int) (hx0 : 0 ≤ x) (hx1 : x < D) (hy0 : 0 ≤ y) (hy1 : y < D) :
    Ans 8 #[.int .i64 f, .int .u64 x, .int .u64 y] (.int .i64 (if (2 * t + 1) * h < sz S x ∨ (2 * t + 1) * h < sz S y then 2 else cmp3 (rk S x 0) (rk S y 0))) :=
  fun w hs => compare_yes hF x y w hs hx0 hx1 hy0 hy1

/-- Nothing lies between a number and the next. -/
theorem none_between (S i m x y : Int) (hS : 0 < S) (hi : 0 < i) (hiS : i < S) (hx0 : 0 ≤ x) (hx1 : x < 2 * S) (hy0 : 0 ≤ y) (hy1 : y < 2 * S)
    (hnx : ¬ i < sz S x) (hny : ¬ i < sz S y) (h1 : cmp3 (rk S x 0) (rk S y 0) = -1) :
    ¬ (i < sz S (nxt S i m x)) ∧ ¬ cmp3 (rk S y 0) (rk S (nxt S i m x) 0) = -1 ∧ 0 ≤ nxt S i m x ∧ nxt S i m x < 2 * S := by
  have hlt : rk S x 0 < rk S y 0 := by
    unfold cmp3 at h1
    split at h1
    · assumption
    · split at h1 <;> omega
  have key : rk S (nxt S i m x) 0 ≤ rk S y 0 ∧ ¬ (i < sz S (nxt S i m x)) ∧ 0 ≤ nxt S i m x ∧ nxt S i m x < 2 * S := by
    unfold nxt
    rw [if_neg hnx]
    unfold sz at hnx hny
    unfold rk at hlt
    by_cases a1 : x = S ∨ x = 0
    · rw [if_pos a1]
      unfold rk sz
      rw [if_pos (show (1 : Int) < S by omega)]
      rcases a1 with rfl | rfl
      · rw [if_neg (by omega)] at hlt
        split at hlt <;> omega
      · rw [if_pos hS] at hlt
        split at hlt <;> omega
    · rw [if_neg a1]
      by_cases a2 : x = i
      · rw [if_pos a2]
        subst a2
        unfold rk sz
        rw [if_pos hiS]
        rw [if_pos hiS] at hlt
        split at hlt <;> omega
      · rw [if_neg a2]
        by_cases a3 : S ≤ x
        · rw [if_pos a3]
          unfold rk sz
          rw [if_neg (show ¬ x < S by omega)] at hlt hnx
          rw [if_neg (show ¬ x - 1 < S by omega)]
          split at hlt <;> omega
        · rw [if_neg a3]
          rw [if_pos (show x < S by omega)] at hlt hnx
          unfold rk sz
          rw [if_pos (show x + 1 < S by omega)]
          split at hlt <;> omega
  refine ⟨key.2.1, ?_, key.2.2.1, key.2.2.2⟩
  unfold cmp3
  split
  · omega
  · split <;> omega
end Go.Proofs.YtmoeojmnfcbdaaaDoor
