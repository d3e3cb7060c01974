/- The walk of the law of Order: it answers true, and old memory stays as it was. -/
import Derived.Test.YtcpnmcfpnhokgaaDoorW2
import Derived.Test.YtcpnmcfpnhokgaaDoorW3
namespace Go.Proofs.YtcpnmcfpnhokgaaDoor
open Go.RowKit

theorem ord_eq (S x y : Int) (hx0 : 0 ≤ x) (hy0 : 0 ≤ y) : cmp3 (rk S x 1) (rk S y 1) = ord S x y := by
  unfold cmp3 rk ord
  by_cases hx : x < S <;> by_cases hy : y < S
  · rw [if_pos hx, if_pos hy]
    repeat' split
    all_goals omega
  · rw [if_pos hx, if_neg hy]
    repeat' split
    all_goals omega
  · rw [if_neg hx, if_pos hy]
    repeat' split
    all_goals omega
  · rw [if_neg hx, if_neg hy]
    repeat' split
    all_goals omega

theorem div_no {x D : Int} (h0 : 0 < D) (h1 : D ≤ x) : (x / D == 0) = false := by
  rw [beq_eq_false_iff_ne]
  intro h
  have := (Int.le_ediv_iff_mul_le h0 (a := 1) (b := x)).2 (by omega)
  omega

end Go.Proofs.YtcpnmcfpnhokgaaDoor
