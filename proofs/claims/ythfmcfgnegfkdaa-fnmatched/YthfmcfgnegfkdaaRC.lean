/- A list run through a structure. -/
import Derived.Test.YthfmcfgnegfkdaaRB
import Derived.Deep.Cut
namespace Go.Proofs.Ythfmcfgnegfkdaa
open Go.RowKit

/-- The first k told, noughts behind them. -/
def upz (f : Nat → Int) (k i : Nat) : Int := if i < k then f i else 0

theorem upz_put (f : Nat → Int) (n k : Nat) : (ils (upz f k) n).set k (.int .i64 (f k)) = ils (upz f (k + 1)) n := by
  rw [ils_put]
  refine ils_congr fun i _ => ?_
  unfold upz
  by_cases h : i = k
  · subst h; rw [if_pos rfl, if_pos (by omega)]
  · rw [if_neg h]
    by_cases h1 : i < k
    · rw [if_pos h1, if_pos (by omega)]
    · rw [if_neg h1, if_neg (by omega)]

theorem upz_zero (f : Nat → Int) (n : Nat) : ils (upz f 0) n = ils (fun _ => 0) n := ils_congr fun i _ => by simp [upz]

theorem upz_full (f : Nat → Int) (n : Nat) : ils (upz f n) n = ils f n := ils_congr fun i hi => by simp [upz, hi]

end Go.Proofs.Ythfmcfgnegfkdaa
