/- QtyOk: the law; quantities held against each other. -/
import Derived.Test.YtonjgielpcofeaaQF
namespace Go.Proofs.Ytonjgielpcofeaa
open Go.RowKit

/-- What comes out of what is made right: 0 and false where it is not. -/
def qd (n p v s : Int) : Bool := decide (Qok (nz n).1 (pz n p) v s)
def qn (n p v s : Int) : Int := if Qok (nz n).1 (pz n p) v s then (nz n).1 else 0
def qp (n p v s : Int) : Int := if Qok (nz n).1 (pz n p) v s then pz n p else 0
def qv (n p v s : Int) : Int := if Qok (nz n).1 (pz n p) v s then v else 0
def qs (n p v s : Int) : Int := if Qok (nz n).1 (pz n p) v s then s else 0

theorem q_all (n p v s : Int) : (Value.tuple #[if Qok (nz n).1 (pz n p) v s then .agg #[.int .i64 (nz n).1, .int .i64 (pz n p), .int .i64 v, .int .i64 s] else .agg #[.int .i64 0, .int .i64 0, .int .i64 0, .int .i64 0], .bool (decide (Qok (nz n).1 (pz n p) v s))]) = .tuple #[.agg #[.int .i64 (qn n p v s), .int .i64 (qp n p v s), .int .i64 (qv n p v s), .int .i64 (qs n p v s)], .bool (qd n p v s)] := by
  unfold qn qp qv qs qd
  by_cases h : Qok (nz n).1 (pz n p) v s
  · rw [if_pos h, if_pos h, if_pos h, if_pos h, if_pos h]
  · rw [if_neg h, if_neg h, if_neg h, if_neg h, if_neg h]

theorem iOnly (n p v s : Int) (hn : -9223372036854775808 ≤ n ∧ n ≤ 9223372036854775807) (hp : -1000 ≤ p ∧ p ≤ 1000) (w : World) : Calls Try.prog 23 #[.agg #[.int .i64 n, .int .i64 p, .int .i64 v, .int .i64 s]] w fun e w' => e = .returned (.tuple #[.agg #[.int .i64 (qn n p v s), .int .i64 (qp n p v s), .int .i64 (qv n p v s), .int .i64 (qs n p v s)], .bool (qd n p v s)]) ∧ Below w.heap.size w w' := by
  rw [← q_all]
  exact iOnly_any n p v s hn hp w

theorem sOnly (n p v s : Int) (hn : -9223372036854775808 ≤ n ∧ n ≤ 9223372036854775807) (hp : -1000 ≤ p ∧ p ≤ 1000) (w : World) : Calls Try.prog 25 #[.int .i64 n, .int .i64 p, .int .i64 v, .int .i64 s] w fun e w' => e = .returned (.tuple #[.agg #[.int .i64 (qn n p v s), .int .i64 (qp n p v s), .int .i64 (qv n p v s), .int .i64 (qs n p v s)], .bool (qd n p v s)]) ∧ Below w.heap.size w w' := by
  rw [← q_all]
  exact sOnly_any n p v s hn hp w

theorem walk_qtyOk (n p v s : Int) (w : World) : Calls Try.prog 4 #[.agg #[.int .i64 n, .int .i64 p, .int .i64 v, .int .i64 s]] w fun e w' => e = .returned (.bool true) ∧ Below w.heap.size w w' := by
  generalize hd : decide (Qok n p v s) = d
  have hdd : (d != d) = false := by simp
  have B0 : Hid (Below w.heap.size w ((w).alloc (.cells #[.int .i64 n, .int .i64 p, .int .i64 v, .int .i64 s] 30))) := below_one w _
  have RR : Hid (R4 ((w).alloc (.cells #[.int .i64 n, .int .i64 p, .int .i64 v, .int .i64 s] 30)) w.heap.size n p v s) := R4.new _ _ _ _ _ _
  go_enter Try.func4, Try.ntmps4
  go_wp2_with (first
    | (go_at_call 15; (with_reducible refine (toQ_any n p v s _).mono ?_); rintro e w' ⟨rfl, hb⟩; have RR : Hid (R4 w' w.heap.size n p v s) := RR.out.call hb; have B0 : Hid (Below w.heap.size w w') := bstep B0.out hb; clear hb)
    | (go_at_call 14; (with_reducible refine (sQok_any n p v s _).mono ?_); rintro e w' ⟨rfl, hb⟩; have B0 : Hid (Below w.heap.size w w') := bstep B0.out hb; have RR : Hid (R4 w' w.heap.size n p v s) := RR.out.call hb; obtain ⟨c0, c1, c2, c3, _⟩ := RR.out; clear hb; rw [hd])
    | (go_at_call 16; (with_reducible refine (iQok_any n p v s _).mono ?_); rintro e w' ⟨rfl, hb⟩; have B0 : Hid (Below w.heap.size w w') := bstep B0.out hb; have RR : Hid (R4 w' w.heap.size n p v s) := RR.out.call hb; obtain ⟨c0, c1, c2, c3, _⟩ := RR.out; clear hb; rw [hd]))
  go_ret
  exact ⟨rfl, B0.out⟩

theorem eqQ_any (a1 a2 a3 a4 b1 b2 b3 b4 : Int) (w : World) (h : a1 = b1 ∧ a2 = b2 ∧ a3 = b3 ∧ a4 = b4) : Calls Try.prog 17 #[.agg #[.int .i64 a1, .int .i64 a2, .int .i64 a3, .int .i64 a4], .agg #[.int .i64 b1, .int .i64 b2, .int .i64 b3, .int .i64 b4]] w fun e w' => e = .returned (.bool true) ∧ Below w.heap.size w w' := by
  obtain ⟨rfl, rfl, rfl, rfl⟩ := h
  have B0 : Hid (Below w.heap.size w (((w).alloc (.cells #[.int .i64 a1, .int .i64 a2, .int .i64 a3, .int .i64 a4] 25)).alloc (.cells #[.int .i64 a1, .int .i64 a2, .int .i64 a3, .int .i64 a4] 25))) := bstep (below_one w _) (below_one _ _)
  go_enter Try.func17, Try.ntmps17
  go_wp2
  go_ret
  exact ⟨rfl, B0.out⟩

end Go.Proofs.Ytonjgielpcofeaa
