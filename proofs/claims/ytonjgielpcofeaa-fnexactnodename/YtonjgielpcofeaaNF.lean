/- Names: the law. -/
import Derived.Test.YtonjgielpcofeaaNE
namespace Go.Proofs.Ytonjgielpcofeaa
open Go.RowKit

set_option maxHeartbeats 1000000 in
theorem walk_name (s : ByteArray) (w : World) : Calls Try.prog 7 #[.string s] w fun e w' => e = .returned (.bool true) ∧ Below w.heap.size w w' := by
  by_cases hs : s.size ≤ 1048576
  · generalize hd : nmr s s.size 0 0 = d
    have hdd : (d != d) = false := by simp
    have hs2 : ¬ (1048576 : Int) < s.size := by omega
    go_enter Try.func7, Try.ntmps7
    go_wp2_with (first
      | (go_at_call 18; (with_reducible refine (sName_any s hs _).mono ?_); rintro e w' ⟨rfl, hw⟩; obtain rfl := hw.symm; rw [hd])
      | (go_at_call 19; (with_reducible refine (iName_any s hs _).mono ?_); rintro e w' ⟨rfl, hb⟩; have B0 : Hid (Below w.heap.size w w') := hb; clear hb; rw [hd]))
    go_ret
    exact ⟨rfl, B0.out⟩
  · have hs2 : (1048576 : Int) < s.size := by omega
    go_enter Try.func7, Try.ntmps7
    go_wp2
    go_ret
    exact ⟨rfl, Below.refl _ _⟩

end Go.Proofs.Ytonjgielpcofeaa
