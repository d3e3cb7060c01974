/- QtyOk. -/
import Derived.Test.YtonjgielpcofeaaQB
namespace Go.Proofs.Ytonjgielpcofeaa
open Go.RowKit

set_option maxHeartbeats 1000000 in
theorem iQok_any (n p v s : Int) (w : World) : Calls Try.prog 16 #[.agg #[.int .i64 n, .int .i64 p, .int .i64 v, .int .i64 s]] w fun e w' => e = .returned (.bool (decide (Qok n p v s))) ∧ Below w.heap.size w w' := by
  have B0 : Hid (Below w.heap.size w ((w).alloc (.cells #[.int .i64 n, .int .i64 p, .int .i64 v, .int .i64 s] 25))) := below_one w _
  obtain ⟨d, hd⟩ : ∃ d, d = decide (Qok n p v s) := ⟨_, rfl⟩
  rw [← hd]
  have HD : Hid _ := hd
  clear hd
  have ht := tmod_ten n
  by_cases h0 : -1000000000 ≤ n ∧ n ≤ 1000000000
  · have hn := decide_eq_true h0
    by_cases h3 : n % 10 = 0
    · have h4 : n.tmod 10 = 0 := ht.2 h3
      by_cases h5 : n = 0
      · subst h5
        by_cases h6 : p = 0
        · subst h6
          clear ht
          have hp := decide_eq_true (show -30 ≤ (0 : Int) ∧ (0 : Int) ≤ 30 by decide)
          by_cases hv0 : (-9 ≤ v ∧ v ≤ 9) ∧ -9 ≤ s ∧ s ≤ 9
          · have hv := decide_eq_true hv0
            go_enter Try.func16, Try.ntmps16
            go_wp2_with (first | (go_at_call 28; (with_reducible refine (sam_one _ _).mono ?_); rintro e w' ⟨rfl, hw⟩; obtain rfl := hw.symm; rw [hn]) | (go_at_call 29; first | ((with_reducible refine (within_one (x := 0) ?_ ⟨by decide, by decide⟩).mono ?_); (· go_simp); rintro e w' ⟨rfl, hw⟩; obtain rfl := hw.symm; (try rw [hp])) | ((with_reducible refine (within_two (x := v) (y := s) ?_ ?_ ⟨by decide, by decide⟩).mono ?_); (· go_simp); (· go_simp); rintro e w' ⟨rfl, hw⟩; obtain rfl := hw.symm; (try rw [hv]))))
            go_ret
            exact ⟨congrArg (fun z => Ending.returned (.bool z)) (by rw [HD.out]; (try rw [hb]); refine (decide_eq_true ?_).symm; unfold Qok; omega), by (repeat first | exact below_one _ _ | exact B0.out | (refine Below.alloc ?_ (by simp <;> omega) _) | (refine Below.setCell ?_ (by simp <;> omega) _))⟩
          · have hv := decide_eq_false hv0
            go_enter Try.func16, Try.ntmps16
            go_wp2_with (first | (go_at_call 28; (with_reducible refine (sam_one _ _).mono ?_); rintro e w' ⟨rfl, hw⟩; obtain rfl := hw.symm; rw [hn]) | (go_at_call 29; first | ((with_reducible refine (within_one (x := 0) ?_ ⟨by decide, by decide⟩).mono ?_); (· go_simp); rintro e w' ⟨rfl, hw⟩; obtain rfl := hw.symm; (try rw [hp])) | ((with_reducible refine (within_two (x := v) (y := s) ?_ ?_ ⟨by decide, by decide⟩).mono ?_); (· go_simp); (· go_simp); rintro e w' ⟨rfl, hw⟩; obtain rfl := hw.symm; (try rw [hv]))))
            go_ret
            exact ⟨congrArg (fun z => Ending.returned (.bool z)) (by rw [HD.out]; (try rw [hb]); refine (decide_eq_false ?_).symm; unfold Qok; omega), by (repeat first | exact below_one _ _ | exact B0.out | (refine Below.alloc ?_ (by simp <;> omega) _) | (refine Below.setCell ?_ (by simp <;> omega) _))⟩
        · clear ht
          go_enter Try.func16, Try.ntmps16
          go_wp2_with (first | (go_at_call 28; (with_reducible refine (sam_one _ _).mono ?_); rintro e w' ⟨rfl, hw⟩; obtain rfl := hw.symm; rw [hn]) | (go_at_call 29; first | ((with_reducible refine (within_one (x := p) ?_ ⟨by decide, by decide⟩).mono ?_); (· go_simp); rintro e w' ⟨rfl, hw⟩; obtain rfl := hw.symm; (try rw [hp])) | ((with_reducible refine (within_two (x := v) (y := s) ?_ ?_ ⟨by decide, by decide⟩).mono ?_); (· go_simp); (· go_simp); rintro e w' ⟨rfl, hw⟩; obtain rfl := hw.symm; (try rw [hv]))))
          go_ret
          exact ⟨congrArg (fun z => Ending.returned (.bool z)) (by rw [HD.out]; (try rw [hb]); refine (decide_eq_false ?_).symm; unfold Qok; omega), by (repeat first | exact below_one _ _ | exact B0.out | (refine Below.alloc ?_ (by simp <;> omega) _) | (refine Below.setCell ?_ (by simp <;> omega) _))⟩
      · clear ht
        go_enter Try.func16, Try.ntmps16
        go_wp2_with (first | (go_at_call 28; (with_reducible refine (sam_one _ _).mono ?_); rintro e w' ⟨rfl, hw⟩; obtain rfl := hw.symm; rw [hn]) | (go_at_call 29; first | ((with_reducible refine (within_one (x := p) ?_ ⟨by decide, by decide⟩).mono ?_); (· go_simp); rintro e w' ⟨rfl, hw⟩; obtain rfl := hw.symm; (try rw [hp])) | ((with_reducible refine (within_two (x := v) (y := s) ?_ ?_ ⟨by decide, by decide⟩).mono ?_); (· go_simp); (· go_simp); rintro e w' ⟨rfl, hw⟩; obtain rfl := hw.symm; (try rw [hv]))))
        go_ret
        exact ⟨congrArg (fun z => Ending.returned (.bool z)) (by rw [HD.out]; (try rw [hb]); refine (decide_eq_false ?_).symm; unfold Qok; omega), by (repeat first | exact below_one _ _ | exact B0.out | (refine Below.alloc ?_ (by simp <;> omega) _) | (refine Below.setCell ?_ (by simp <;> omega) _))⟩
    · have h4 : ¬ n.tmod 10 = 0 := fun h => h3 (ht.1 h)
      have h5 : ¬ n = 0 := fun h => h3 (by rw [h]; rfl)
      clear ht
      by_cases hp0 : -30 ≤ p ∧ p ≤ 30
      · have hp := decide_eq_true hp0
        by_cases hv0 : (-9 ≤ v ∧ v ≤ 9) ∧ -9 ≤ s ∧ s ≤ 9
        · have hv := decide_eq_true hv0
          go_enter Try.func16, Try.ntmps16
          go_wp2_with (first | (go_at_call 28; (with_reducible refine (sam_one _ _).mono ?_); rintro e w' ⟨rfl, hw⟩; obtain rfl := hw.symm; rw [hn]) | (go_at_call 29; first | ((with_reducible refine (within_one (x := p) ?_ ⟨by decide, by decide⟩).mono ?_); (· go_simp); rintro e w' ⟨rfl, hw⟩; obtain rfl := hw.symm; (try rw [hp])) | ((with_reducible refine (within_two (x := v) (y := s) ?_ ?_ ⟨by decide, by decide⟩).mono ?_); (· go_simp); (· go_simp); rintro e w' ⟨rfl, hw⟩; obtain rfl := hw.symm; (try rw [hv]))))
          go_ret
          exact ⟨congrArg (fun z => Ending.returned (.bool z)) (by rw [HD.out]; (try rw [hb]); refine (decide_eq_true ?_).symm; unfold Qok; omega), by (repeat first | exact below_one _ _ | exact B0.out | (refine Below.alloc ?_ (by simp <;> omega) _) | (refine Below.setCell ?_ (by simp <;> omega) _))⟩
        · have hv := decide_eq_false hv0
          go_enter Try.func16, Try.ntmps16
          go_wp2_with (first | (go_at_call 28; (with_reducible refine (sam_one _ _).mono ?_); rintro e w' ⟨rfl, hw⟩; obtain rfl := hw.symm; rw [hn]) | (go_at_call 29; first | ((with_reducible refine (within_one (x := p) ?_ ⟨by decide, by decide⟩).mono ?_); (· go_simp); rintro e w' ⟨rfl, hw⟩; obtain rfl := hw.symm; (try rw [hp])) | ((with_reducible refine (within_two (x := v) (y := s) ?_ ?_ ⟨by decide, by decide⟩).mono ?_); (· go_simp); (· go_simp); rintro e w' ⟨rfl, hw⟩; obtain rfl := hw.symm; (try rw [hv]))))
          go_ret
          exact ⟨congrArg (fun z => Ending.returned (.bool z)) (by rw [HD.out]; (try rw [hb]); refine (decide_eq_false ?_).symm; unfold Qok; omega), by (repeat first | exact below_one _ _ | exact B0.out | (refine Below.alloc ?_ (by simp <;> omega) _) | (refine Below.setCell ?_ (by simp <;> omega) _))⟩
      · have hp := decide_eq_false hp0
        go_enter Try.func16, Try.ntmps16
        go_wp2_with (first | (go_at_call 28; (with_reducible refine (sam_one _ _).mono ?_); rintro e w' ⟨rfl, hw⟩; obtain rfl := hw.symm; rw [hn]) | (go_at_call 29; first | ((with_reducible refine (within_one (x := p) ?_ ⟨by decide, by decide⟩).mono ?_); (· go_simp); rintro e w' ⟨rfl, hw⟩; obtain rfl := hw.symm; (try rw [hp])) | ((with_reducible refine (within_two (x := v) (y := s) ?_ ?_ ⟨by decide, by decide⟩).mono ?_); (· go_simp); (· go_simp); rintro e w' ⟨rfl, hw⟩; obtain rfl := hw.symm; (try rw [hv]))))
        go_ret
        exact ⟨congrArg (fun z => Ending.returned (.bool z)) (by rw [HD.out]; (try rw [hb]); refine (decide_eq_false ?_).symm; unfold Qok; omega), by (repeat first | exact below_one _ _ | exact B0.out | (refine Below.alloc ?_ (by simp <;> omega) _) | (refine Below.setCell ?_ (by simp <;> omega) _))⟩
  · have h5 : ¬ n = 0 := fun h => h0 (by omega)
    clear ht
    have hn := decide_eq_false h0
    go_enter Try.func16, Try.ntmps16
    go_wp2_with (first | (go_at_call 28; (with_reducible refine (sam_one _ _).mono ?_); rintro e w' ⟨rfl, hw⟩; obtain rfl := hw.symm; rw [hn]) | (go_at_call 29; first | ((with_reducible refine (within_one (x := p) ?_ ⟨by decide, by decide⟩).mono ?_); (· go_simp); rintro e w' ⟨rfl, hw⟩; obtain rfl := hw.symm; (try rw [hp])) | ((with_reducible refine (within_two (x := v) (y := s) ?_ ?_ ⟨by decide, by decide⟩).mono ?_); (· go_simp); (· go_simp); rintro e w' ⟨rfl, hw⟩; obtain rfl := hw.symm; (try rw [hv]))))
    go_ret
    exact ⟨congrArg (fun z => Ending.returned (.bool z)) (by rw [HD.out]; (try rw [hb]); refine (decide_eq_false ?_).symm; unfold Qok; omega), by (repeat first | exact below_one _ _ | exact B0.out | (refine Below.alloc ?_ (by simp <;> omega) _) | (refine Below.setCell ?_ (by simp <;> omega) _))⟩

set_option maxHeartbeats 1000000 in
theorem sQok_any (n p v s : Int) (w : World) : Calls Try.prog 14 #[.agg #[.int .i64 n, .int .i64 p, .int .i64 v, .int .i64 s]] w fun e w' => e = .returned (.bool (decide (Qok n p v s))) ∧ Below w.heap.size w w' := by
  have B0 : Hid (Below w.heap.size w ((w).alloc (.cells #[.int .i64 n, .int .i64 p, .int .i64 v, .int .i64 s] 25))) := below_one w _
  obtain ⟨d, hd⟩ : ∃ d, d = decide (Qok n p v s) := ⟨_, rfl⟩
  rw [← hd]
  have HD : Hid _ := hd
  clear hd
  have ht := tmod_ten n
  by_cases h0 : -1000000000 ≤ n ∧ n ≤ 1000000000
  · have hn := decide_eq_true h0
    by_cases v1 : -9 ≤ v ∧ v ≤ 9
    · have hv1 := decide_eq_true v1
      by_cases v2 : -9 ≤ s ∧ s ≤ 9
      · have hv2 := decide_eq_true v2
        by_cases p1 : -30 ≤ p ∧ p ≤ 30
        · have hp := decide_eq_true p1
          by_cases h5 : n = 0
          · subst h5
            by_cases h6 : p = 0
            · subst h6
              have hb : ((0 : Int) == 0) = true := rfl
              go_enter Try.func14, Try.ntmps14
              go_wp2_with (first | (go_at_call 27; (with_reducible refine (in_one _ _ _ _).mono ?_); rintro e w' ⟨rfl, hw⟩; obtain rfl := hw.symm; first | rw [hv1] | rw [hv2] | rw [hp]) | (go_at_call 26; (with_reducible refine (ssam_one _ _).mono ?_); rintro e w' ⟨rfl, hw⟩; obtain rfl := hw.symm; rw [hn]))
              go_ret
              exact ⟨congrArg (fun z => Ending.returned (.bool z)) (by rw [HD.out]; (try rw [hb]); refine (decide_eq_true ?_).symm; unfold Qok; omega), by (repeat first | exact below_one _ _ | exact B0.out | (refine Below.alloc ?_ (by simp <;> omega) _) | (refine Below.setCell ?_ (by simp <;> omega) _))⟩
            · have hb : (p == 0) = false := by simp [h6]
              clear ht
              go_enter Try.func14, Try.ntmps14
              go_wp2_with (first | (go_at_call 27; (with_reducible refine (in_one _ _ _ _).mono ?_); rintro e w' ⟨rfl, hw⟩; obtain rfl := hw.symm; first | rw [hv1] | rw [hv2] | rw [hp]) | (go_at_call 26; (with_reducible refine (ssam_one _ _).mono ?_); rintro e w' ⟨rfl, hw⟩; obtain rfl := hw.symm; rw [hn]))
              go_ret
              exact ⟨congrArg (fun z => Ending.returned (.bool z)) (by rw [HD.out]; (try rw [hb]); refine (decide_eq_false ?_).symm; unfold Qok; omega), by (repeat first | exact below_one _ _ | exact B0.out | (refine Below.alloc ?_ (by simp <;> omega) _) | (refine Below.setCell ?_ (by simp <;> omega) _))⟩
          · by_cases h3 : n % 10 = 0
            · have h4 : n.tmod 10 = 0 := ht.2 h3
              have hb : (n.tmod 10 != 0) = false := by simp [h4]
              clear ht
              go_enter Try.func14, Try.ntmps14
              go_wp2_with (first | (go_at_call 27; (with_reducible refine (in_one _ _ _ _).mono ?_); rintro e w' ⟨rfl, hw⟩; obtain rfl := hw.symm; first | rw [hv1] | rw [hv2] | rw [hp]) | (go_at_call 26; (with_reducible refine (ssam_one _ _).mono ?_); rintro e w' ⟨rfl, hw⟩; obtain rfl := hw.symm; rw [hn]))
              go_ret
              exact ⟨congrArg (fun z => Ending.returned (.bool z)) (by rw [HD.out]; (try rw [hb]); refine (decide_eq_false ?_).symm; unfold Qok; omega), by (repeat first | exact below_one _ _ | exact B0.out | (refine Below.alloc ?_ (by simp <;> omega) _) | (refine Below.setCell ?_ (by simp <;> omega) _))⟩
            · have h4 : ¬ n.tmod 10 = 0 := fun h => h3 (ht.1 h)
              have hb : (n.tmod 10 != 0) = true := by simp [h4]
              clear ht
              go_enter Try.func14, Try.ntmps14
              go_wp2_with (first | (go_at_call 27; (with_reducible refine (in_one _ _ _ _).mono ?_); rintro e w' ⟨rfl, hw⟩; obtain rfl := hw.symm; first | rw [hv1] | rw [hv2] | rw [hp]) | (go_at_call 26; (with_reducible refine (ssam_one _ _).mono ?_); rintro e w' ⟨rfl, hw⟩; obtain rfl := hw.symm; rw [hn]))
              go_ret
              exact ⟨congrArg (fun z => Ending.returned (.bool z)) (by rw [HD.out]; (try rw [hb]); refine (decide_eq_true ?_).symm; unfold Qok; omega), by (repeat first | exact below_one _ _ | exact B0.out | (refine Below.alloc ?_ (by simp <;> omega) _) | (refine Below.setCell ?_ (by simp <;> omega) _))⟩
        · have hp := decide_eq_false p1
          clear ht
          go_enter Try.func14, Try.ntmps14
          go_wp2_with (first | (go_at_call 27; (with_reducible refine (in_one _ _ _ _).mono ?_); rintro e w' ⟨rfl, hw⟩; obtain rfl := hw.symm; first | rw [hv1] | rw [hv2] | rw [hp]) | (go_at_call 26; (with_reducible refine (ssam_one _ _).mono ?_); rintro e w' ⟨rfl, hw⟩; obtain rfl := hw.symm; rw [hn]))
          go_ret
          exact ⟨congrArg (fun z => Ending.returned (.bool z)) (by rw [HD.out]; (try rw [hb]); refine (decide_eq_false ?_).symm; unfold Qok; omega), by (repeat first | exact below_one _ _ | exact B0.out | (refine Below.alloc ?_ (by simp <;> omega) _) | (refine Below.setCell ?_ (by simp <;> omega) _))⟩
      · have hv2 := decide_eq_false v2
        clear ht
        go_enter Try.func14, Try.ntmps14
        go_wp2_with (first | (go_at_call 27; (with_reducible refine (in_one _ _ _ _).mono ?_); rintro e w' ⟨rfl, hw⟩; obtain rfl := hw.symm; first | rw [hv1] | rw [hv2] | rw [hp]) | (go_at_call 26; (with_reducible refine (ssam_one _ _).mono ?_); rintro e w' ⟨rfl, hw⟩; obtain rfl := hw.symm; rw [hn]))
        go_ret
        exact ⟨congrArg (fun z => Ending.returned (.bool z)) (by rw [HD.out]; (try rw [hb]); refine (decide_eq_false ?_).symm; unfold Qok; omega), by (repeat first | exact below_one _ _ | exact B0.out | (refine Below.alloc ?_ (by simp <;> omega) _) | (refine Below.setCell ?_ (by simp <;> omega) _))⟩
    · have hv1 := decide_eq_false v1
      clear ht
      go_enter Try.func14, Try.ntmps14
      go_wp2_with (first | (go_at_call 27; (with_reducible refine (in_one _ _ _ _).mono ?_); rintro e w' ⟨rfl, hw⟩; obtain rfl := hw.symm; first | rw [hv1] | rw [hv2] | rw [hp]) | (go_at_call 26; (with_reducible refine (ssam_one _ _).mono ?_); rintro e w' ⟨rfl, hw⟩; obtain rfl := hw.symm; rw [hn]))
      go_ret
      exact ⟨congrArg (fun z => Ending.returned (.bool z)) (by rw [HD.out]; (try rw [hb]); refine (decide_eq_false ?_).symm; unfold Qok; omega), by (repeat first | exact below_one _ _ | exact B0.out | (refine Below.alloc ?_ (by simp <;> omega) _) | (refine Below.setCell ?_ (by simp <;> omega) _))⟩
  · have hn := decide_eq_false h0
    clear ht
    go_enter Try.func14, Try.ntmps14
    go_wp2_with (first | (go_at_call 27; (with_reducible refine (in_one _ _ _ _).mono ?_); rintro e w' ⟨rfl, hw⟩; obtain rfl := hw.symm; first | rw [hv1] | rw [hv2] | rw [hp]) | (go_at_call 26; (with_reducible refine (ssam_one _ _).mono ?_); rintro e w' ⟨rfl, hw⟩; obtain rfl := hw.symm; rw [hn]))
    go_ret
    exact ⟨congrArg (fun z => Ending.returned (.bool z)) (by rw [HD.out]; (try rw [hb]); refine (decide_eq_false ?_).symm; unfold Qok; omega), by (repeat first | exact below_one _ _ | exact B0.out | (refine Below.alloc ?_ (by simp <;> omega) _) | (refine Below.setCell ?_ (by simp <;> omega) _))⟩

end Go.Proofs.Ytonjgielpcofeaa
