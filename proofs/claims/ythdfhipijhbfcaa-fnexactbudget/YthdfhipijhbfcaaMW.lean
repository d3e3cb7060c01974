/- ModemOk, Budget: both sides, the laws. -/
import Derived.Test.YthdfhipijhbfcaaMO
namespace Go.Proofs.Ythdfhipijhbfcaa
open Go.RowKit

theorem walk_modemOk (wi me ro se ra si : Int) (w : World) : Calls Try.prog 3 #[.agg #[.int .i64 wi, .int .i64 me, .int .i64 ro, .int .i64 se, .int .i64 ra, .int .i64 si]] w fun e w' => e = .returned (.bool true) ∧ Below w.heap.size w w' := by
  generalize hd : decide (Mok wi me ro se ra si) = d
  have hdd : (d != d) = false := by simp
  have B0 : Hid (Below w.heap.size w (w.alloc (.cells #[.int .i64 wi, .int .i64 me, .int .i64 ro, .int .i64 se, .int .i64 ra, .int .i64 si] 23))) := below_one w _
  have RR : Hid (R6 (w.alloc (.cells #[.int .i64 wi, .int .i64 me, .int .i64 ro, .int .i64 se, .int .i64 ra, .int .i64 si] 23)) w.heap.size wi me ro se ra si) := R6.new _ _ _ _ _ _ _ _
  go_enter Try.func3, Try.ntmps3
  go_wp2_with (first
    | (go_at_call 6; (with_reducible refine (toM_any wi me ro se ra si _).mono ?_); rintro e w' ⟨rfl, hb⟩; have RR : Hid (R6 w' w.heap.size wi me ro se ra si) := RR.out.call hb; have B0 : Hid (Below w.heap.size w w') := bstep B0.out hb; clear hb)
    | (go_at_call 5; (with_reducible refine (sMok_any wi me ro se ra si _).mono ?_); rintro e w' ⟨rfl, hb⟩; have B0 : Hid (Below w.heap.size w w') := bstep B0.out hb; have RR : Hid (R6 w' w.heap.size wi me ro se ra si) := RR.out.call hb; obtain ⟨c0, c1, c2, c3, c4, c5⟩ := RR.out; clear hb; rw [hd])
    | (go_at_call 7; (with_reducible refine (iMok_any wi me ro se ra si _).mono ?_); rintro e w' ⟨rfl, hb⟩; have B0 : Hid (Below w.heap.size w w') := bstep B0.out hb; have RR : Hid (R6 w' w.heap.size wi me ro se ra si) := RR.out.call hb; obtain ⟨c0, c1, c2, c3, c4, c5⟩ := RR.out; clear hb; rw [hd]))
  go_ret
  exact ⟨rfl, B0.out⟩

theorem iBud_any (wi me ro se ra si : Int) (w : World) : Calls Try.prog 9 #[.agg #[.int .i64 wi, .int .i64 me, .int .i64 ro, .int .i64 se, .int .i64 ra, .int .i64 si]] w fun e w' => e = .returned (.tuple #[.int .i64 (if Mok wi me ro se ra si then (si - 1) / 2 else 0), .int .i64 (if Mok wi me ro se ra si then me / wi else 0)]) ∧ Below w.heap.size w w' := by
  have B0 : Hid (Below w.heap.size w (w.alloc (.cells #[.int .i64 wi, .int .i64 me, .int .i64 ro, .int .i64 se, .int .i64 ra, .int .i64 si] 25))) := below_one w _
  have k := iMok_any wi me ro se ra si (w.alloc (.cells #[.int .i64 wi, .int .i64 me, .int .i64 ro, .int .i64 se, .int .i64 ra, .int .i64 si] 25))
  by_cases h : Mok wi me ro se ra si
  · rw [decide_eq_true h] at k
    rw [if_pos h, if_pos h]
    unfold Mok at h
    have e1 : (si - 1).tdiv 2 = (si - 1) / 2 := Int.tdiv_eq_ediv_of_nonneg (by omega)
    have e2 : me.tdiv wi = me / wi := Int.tdiv_eq_ediv_of_nonneg (by omega)
    have w0 : wi ≠ 0 := by omega
    have w1 : (wi == 0) = false := by simp [w0]
    have l1 : (Int.bmod (si - 1) 18446744073709551616) = si - 1 := by rw [Int.bmod_eq_of_le] <;> omega
    have l2 : 0 ≤ (si - 1) / 2 ∧ (si - 1) / 2 ≤ 10000 := by omega
    have l3 : 0 ≤ me / wi ∧ me / wi ≤ 8 := ⟨Int.ediv_nonneg (by omega) (by omega), Int.le_trans (Int.ediv_le_self _ (by omega)) (by omega)⟩
    go_enter Try.func9, Try.ntmps9
    go_upto_region 3 with (go_at_call 7; (with_reducible refine k.mono ?_); rintro e w' ⟨rfl, hb⟩; have c5 : w'.cell? ⟨w.heap.size, 5, none⟩ = some (.int .i64 si) := (hb.cell (p := ⟨w.heap.size, 5, none⟩) (by simp)).trans (by simp); have c0 : w'.cell? ⟨w.heap.size, 0, none⟩ = some (.int .i64 wi) := (hb.cell (p := ⟨w.heap.size, 0, none⟩) (by simp)).trans (by simp); have c1 : w'.cell? ⟨w.heap.size, 1, none⟩ = some (.int .i64 me) := (hb.cell (p := ⟨w.heap.size, 1, none⟩) (by simp)).trans (by simp); have B0 : Hid (Below w.heap.size w w') := bstep B0.out hb; clear hb k)
    go_quiet (fail)
    go_wp2
    go_ret2
    exact ⟨rfl, below_drewN B0.out _⟩
  · rw [decide_eq_false h] at k
    rw [if_neg h, if_neg h]
    clear h
    go_enter Try.func9, Try.ntmps9
    go_wp2_with (go_at_call 7; (with_reducible refine k.mono ?_); rintro e w' ⟨rfl, hb⟩; have B0 : Hid (Below w.heap.size w w') := bstep B0.out hb; clear hb k)
    go_ret2
    exact ⟨rfl, B0.out⟩

theorem sBud_any (wi me ro se ra si : Int) (w : World) : Calls Try.prog 8 #[.agg #[.int .i64 wi, .int .i64 me, .int .i64 ro, .int .i64 se, .int .i64 ra, .int .i64 si]] w fun e w' => e = .returned (.tuple #[.int .i64 (if Mok wi me ro se ra si then (si - 1) / 2 else 0), .int .i64 (if Mok wi me ro se ra si then me / wi else 0)]) ∧ Below w.heap.size w w' := by
  have B0 : Hid (Below w.heap.size w (w.alloc (.cells #[.int .i64 wi, .int .i64 me, .int .i64 ro, .int .i64 se, .int .i64 ra, .int .i64 si] 25))) := below_one w _
  have k := sMok_any wi me ro se ra si (w.alloc (.cells #[.int .i64 wi, .int .i64 me, .int .i64 ro, .int .i64 se, .int .i64 ra, .int .i64 si] 25))
  by_cases h : Mok wi me ro se ra si
  · rw [decide_eq_true h] at k
    rw [if_pos h, if_pos h]
    unfold Mok at h
    have e1 : (si - 1).tdiv 2 = (si - 1) / 2 := Int.tdiv_eq_ediv_of_nonneg (by omega)
    have e2 : me.tdiv wi = me / wi := Int.tdiv_eq_ediv_of_nonneg (by omega)
    have w0 : wi ≠ 0 := by omega
    have w1 : (wi == 0) = false := by simp [w0]
    have l1 : (Int.bmod (si - 1) 18446744073709551616) = si - 1 := by rw [Int.bmod_eq_of_le] <;> omega
    have l2 : 0 ≤ (si - 1) / 2 ∧ (si - 1) / 2 ≤ 10000 := by omega
    have l3 : 0 ≤ me / wi ∧ me / wi ≤ 8 := ⟨Int.ediv_nonneg (by omega) (by omega), Int.le_trans (Int.ediv_le_self _ (by omega)) (by omega)⟩
    go_enter Try.func8, Try.ntmps8
    go_upto_region 3 with (go_at_call 5; (with_reducible refine k.mono ?_); rintro e w' ⟨rfl, hb⟩; have c5 : w'.cell? ⟨w.heap.size, 5, none⟩ = some (.int .i64 si) := (hb.cell (p := ⟨w.heap.size, 5, none⟩) (by simp)).trans (by simp); have c0 : w'.cell? ⟨w.heap.size, 0, none⟩ = some (.int .i64 wi) := (hb.cell (p := ⟨w.heap.size, 0, none⟩) (by simp)).trans (by simp); have c1 : w'.cell? ⟨w.heap.size, 1, none⟩ = some (.int .i64 me) := (hb.cell (p := ⟨w.heap.size, 1, none⟩) (by simp)).trans (by simp); have B0 : Hid (Below w.heap.size w w') := bstep B0.out hb; clear hb k)
    go_quiet (fail)
    go_wp2
    go_ret2
    exact ⟨rfl, below_drewN B0.out _⟩
  · rw [decide_eq_false h] at k
    rw [if_neg h, if_neg h]
    clear h
    go_enter Try.func8, Try.ntmps8
    go_wp2_with (go_at_call 5; (with_reducible refine k.mono ?_); rintro e w' ⟨rfl, hb⟩; have B0 : Hid (Below w.heap.size w w') := bstep B0.out hb; clear hb k)
    go_ret2
    exact ⟨rfl, B0.out⟩

theorem walk_budget (wi me ro se ra si : Int) (w : World) : Calls Try.prog 4 #[.agg #[.int .i64 wi, .int .i64 me, .int .i64 ro, .int .i64 se, .int .i64 ra, .int .i64 si]] w fun e w' => e = .returned (.bool true) ∧ Below w.heap.size w w' := by
  generalize hd : (if Mok wi me ro se ra si then (si - 1) / 2 else 0) = d
  generalize hf : (if Mok wi me ro se ra si then me / wi else 0) = f
  have hdd : (d != d) = false := by simp
  have hff : (f != f) = false := by simp
  have B0 : Hid (Below w.heap.size w (w.alloc (.cells #[.int .i64 wi, .int .i64 me, .int .i64 ro, .int .i64 se, .int .i64 ra, .int .i64 si] 23))) := below_one w _
  have RR : Hid (R6 (w.alloc (.cells #[.int .i64 wi, .int .i64 me, .int .i64 ro, .int .i64 se, .int .i64 ra, .int .i64 si] 23)) w.heap.size wi me ro se ra si) := R6.new _ _ _ _ _ _ _ _
  go_enter Try.func4, Try.ntmps4
  go_wp2_with (first
    | (go_at_call 6; (with_reducible refine (toM_any wi me ro se ra si _).mono ?_); rintro e w' ⟨rfl, hb⟩; have RR : Hid (R6 w' w.heap.size wi me ro se ra si) := RR.out.call hb; have B0 : Hid (Below w.heap.size w w') := bstep B0.out hb; clear hb)
    | (go_at_call 8; (with_reducible refine (sBud_any wi me ro se ra si _).mono ?_); rintro e w' ⟨rfl, hb⟩; have B0 : Hid (Below w.heap.size w w') := bstep B0.out hb; have RR : Hid (R6 w' w.heap.size wi me ro se ra si) := RR.out.call hb; obtain ⟨c0, c1, c2, c3, c4, c5⟩ := RR.out; clear hb; rw [hd, hf])
    | (go_at_call 9; (with_reducible refine (iBud_any wi me ro se ra si _).mono ?_); rintro e w' ⟨rfl, hb⟩; have B0 : Hid (Below w.heap.size w w') := bstep B0.out hb; have RR : Hid (R6 w' w.heap.size wi me ro se ra si) := RR.out.call hb; obtain ⟨c0, c1, c2, c3, c4, c5⟩ := RR.out; clear hb; rw [hd, hf]))
  go_ret
  exact ⟨rfl, B0.out⟩
end Go.Proofs.Ythdfhipijhbfcaa
