/- Letters of names: the model. -/
import Derived.Test.YtiadfabhpagmpaaDoorNA
namespace Go.Proofs.YtiadfabhpagmpaaDoor
open Go.RowKit

set_option maxHeartbeats 1000000 in
theorem sLtr_any (r : Int) (w : World) : Calls Tryd.prog 46 #[.int .i64 r] w fun e w' => e = .returned (.bool (decide (Ltr r))) ∧ w' = w := by
  obtain ⟨d, hd⟩ : ∃ d, d = decide (Ltr r) := ⟨_, rfl⟩
  rw [← hd]
  have HD : Hid _ := hd
  clear hd
  by_cases h65 : r < 65
  · have c0 : ¬ 65 ≤ r := by omega
    have c1 : r ≤ 90 := by omega
    have c2 : ¬ 97 ≤ r := by omega
    have c3 : r ≤ 122 := by omega
    have c4 : ¬ 192 ≤ r := by omega
    have c5 : r ≤ 591 := by omega
    have c6 : ¬ 913 ≤ r := by omega
    have c7 : r ≤ 969 := by omega
    have n215 : (r != 215) = true := by simp; omega
    have n247 : (r != 247) = true := by simp; omega
    have n930 : (r != 930) = true := by simp; omega
    go_enter Tryd.func46, Tryd.ntmps46
    go_wp2_with (go_at_call 18; (with_reducible refine (in_one _ _ _ _).mono ?_); rintro e w' ⟨rfl, hw⟩; obtain rfl := hw.symm; first | rw [decide_eq_true (by omega)] | rw [decide_eq_false (by omega)])
    go_ret
    exact ⟨congrArg (fun z => Ending.returned (.bool z)) (by rw [HD.out]; refine (decide_eq_false ?_).symm; unfold Ltr; omega), rfl⟩
  by_cases h91 : r < 91
  · have c0 : 65 ≤ r := by omega
    have c1 : r ≤ 90 := by omega
    have c2 : ¬ 97 ≤ r := by omega
    have c3 : r ≤ 122 := by omega
    have c4 : ¬ 192 ≤ r := by omega
    have c5 : r ≤ 591 := by omega
    have c6 : ¬ 913 ≤ r := by omega
    have c7 : r ≤ 969 := by omega
    have n215 : (r != 215) = true := by simp; omega
    have n247 : (r != 247) = true := by simp; omega
    have n930 : (r != 930) = true := by simp; omega
    go_enter Tryd.func46, Tryd.ntmps46
    go_wp2_with (go_at_call 18; (with_reducible refine (in_one _ _ _ _).mono ?_); rintro e w' ⟨rfl, hw⟩; obtain rfl := hw.symm; first | rw [decide_eq_true (by omega)] | rw [decide_eq_false (by omega)])
    go_ret
    exact ⟨congrArg (fun z => Ending.returned (.bool z)) (by rw [HD.out]; refine (decide_eq_true ?_).symm; unfold Ltr; omega), rfl⟩
  by_cases h97 : r < 97
  · have c0 : 65 ≤ r := by omega
    have c1 : ¬ r ≤ 90 := by omega
    have c2 : ¬ 97 ≤ r := by omega
    have c3 : r ≤ 122 := by omega
    have c4 : ¬ 192 ≤ r := by omega
    have c5 : r ≤ 591 := by omega
    have c6 : ¬ 913 ≤ r := by omega
    have c7 : r ≤ 969 := by omega
    have n215 : (r != 215) = true := by simp; omega
    have n247 : (r != 247) = true := by simp; omega
    have n930 : (r != 930) = true := by simp; omega
    go_enter Tryd.func46, Tryd.ntmps46
    go_wp2_with (go_at_call 18; (with_reducible refine (in_one _ _ _ _).mono ?_); rintro e w' ⟨rfl, hw⟩; obtain rfl := hw.symm; first | rw [decide_eq_true (by omega)] | rw [decide_eq_false (by omega)])
    go_ret
    exact ⟨congrArg (fun z => Ending.returned (.bool z)) (by rw [HD.out]; refine (decide_eq_false ?_).symm; unfold Ltr; omega), rfl⟩
  by_cases h123 : r < 123
  · have c0 : 65 ≤ r := by omega
    have c1 : ¬ r ≤ 90 := by omega
    have c2 : 97 ≤ r := by omega
    have c3 : r ≤ 122 := by omega
    have c4 : ¬ 192 ≤ r := by omega
    have c5 : r ≤ 591 := by omega
    have c6 : ¬ 913 ≤ r := by omega
    have c7 : r ≤ 969 := by omega
    have n215 : (r != 215) = true := by simp; omega
    have n247 : (r != 247) = true := by simp; omega
    have n930 : (r != 930) = true := by simp; omega
    go_enter Tryd.func46, Tryd.ntmps46
    go_wp2_with (go_at_call 18; (with_reducible refine (in_one _ _ _ _).mono ?_); rintro e w' ⟨rfl, hw⟩; obtain rfl := hw.symm; first | rw [decide_eq_true (by omega)] | rw [decide_eq_false (by omega)])
    go_ret
    exact ⟨congrArg (fun z => Ending.returned (.bool z)) (by rw [HD.out]; refine (decide_eq_true ?_).symm; unfold Ltr; omega), rfl⟩
  by_cases h192 : r < 192
  · have c0 : 65 ≤ r := by omega
    have c1 : ¬ r ≤ 90 := by omega
    have c2 : 97 ≤ r := by omega
    have c3 : ¬ r ≤ 122 := by omega
    have c4 : ¬ 192 ≤ r := by omega
    have c5 : r ≤ 591 := by omega
    have c6 : ¬ 913 ≤ r := by omega
    have c7 : r ≤ 969 := by omega
    have n215 : (r != 215) = true := by simp; omega
    have n247 : (r != 247) = true := by simp; omega
    have n930 : (r != 930) = true := by simp; omega
    go_enter Tryd.func46, Tryd.ntmps46
    go_wp2_with (go_at_call 18; (with_reducible refine (in_one _ _ _ _).mono ?_); rintro e w' ⟨rfl, hw⟩; obtain rfl := hw.symm; first | rw [decide_eq_true (by omega)] | rw [decide_eq_false (by omega)])
    go_ret
    exact ⟨congrArg (fun z => Ending.returned (.bool z)) (by rw [HD.out]; refine (decide_eq_false ?_).symm; unfold Ltr; omega), rfl⟩
  by_cases h215 : r < 215
  · have c0 : 65 ≤ r := by omega
    have c1 : ¬ r ≤ 90 := by omega
    have c2 : 97 ≤ r := by omega
    have c3 : ¬ r ≤ 122 := by omega
    have c4 : 192 ≤ r := by omega
    have c5 : r ≤ 591 := by omega
    have c6 : ¬ 913 ≤ r := by omega
    have c7 : r ≤ 969 := by omega
    have n215 : (r != 215) = true := by simp; omega
    have n247 : (r != 247) = true := by simp; omega
    have n930 : (r != 930) = true := by simp; omega
    go_enter Tryd.func46, Tryd.ntmps46
    go_wp2_with (go_at_call 18; (with_reducible refine (in_one _ _ _ _).mono ?_); rintro e w' ⟨rfl, hw⟩; obtain rfl := hw.symm; first | rw [decide_eq_true (by omega)] | rw [decide_eq_false (by omega)])
    go_ret
    exact ⟨congrArg (fun z => Ending.returned (.bool z)) (by rw [HD.out]; refine (decide_eq_true ?_).symm; unfold Ltr; omega), rfl⟩
  by_cases h216 : r < 216
  · have e : r = 215 := by omega
    subst e
    go_enter Tryd.func46, Tryd.ntmps46
    go_wp2_with (go_at_call 18; (with_reducible refine (in_one _ _ _ _).mono ?_); rintro e w' ⟨rfl, hw⟩; obtain rfl := hw.symm; first | rw [decide_eq_true (by omega)] | rw [decide_eq_false (by omega)])
    go_ret
    exact ⟨congrArg (fun z => Ending.returned (.bool z)) (by rw [HD.out]; refine (decide_eq_false ?_).symm; unfold Ltr; omega), rfl⟩
  by_cases h247 : r < 247
  · have c0 : 65 ≤ r := by omega
    have c1 : ¬ r ≤ 90 := by omega
    have c2 : 97 ≤ r := by omega
    have c3 : ¬ r ≤ 122 := by omega
    have c4 : 192 ≤ r := by omega
    have c5 : r ≤ 591 := by omega
    have c6 : ¬ 913 ≤ r := by omega
    have c7 : r ≤ 969 := by omega
    have n215 : (r != 215) = true := by simp; omega
    have n247 : (r != 247) = true := by simp; omega
    have n930 : (r != 930) = true := by simp; omega
    go_enter Tryd.func46, Tryd.ntmps46
    go_wp2_with (go_at_call 18; (with_reducible refine (in_one _ _ _ _).mono ?_); rintro e w' ⟨rfl, hw⟩; obtain rfl := hw.symm; first | rw [decide_eq_true (by omega)] | rw [decide_eq_false (by omega)])
    go_ret
    exact ⟨congrArg (fun z => Ending.returned (.bool z)) (by rw [HD.out]; refine (decide_eq_true ?_).symm; unfold Ltr; omega), rfl⟩
  by_cases h248 : r < 248
  · have e : r = 247 := by omega
    subst e
    go_enter Tryd.func46, Tryd.ntmps46
    go_wp2_with (go_at_call 18; (with_reducible refine (in_one _ _ _ _).mono ?_); rintro e w' ⟨rfl, hw⟩; obtain rfl := hw.symm; first | rw [decide_eq_true (by omega)] | rw [decide_eq_false (by omega)])
    go_ret
    exact ⟨congrArg (fun z => Ending.returned (.bool z)) (by rw [HD.out]; refine (decide_eq_false ?_).symm; unfold Ltr; omega), rfl⟩
  by_cases h592 : r < 592
  · have c0 : 65 ≤ r := by omega
    have c1 : ¬ r ≤ 90 := by omega
    have c2 : 97 ≤ r := by omega
    have c3 : ¬ r ≤ 122 := by omega
    have c4 : 192 ≤ r := by omega
    have c5 : r ≤ 591 := by omega
    have c6 : ¬ 913 ≤ r := by omega
    have c7 : r ≤ 969 := by omega
    have n215 : (r != 215) = true := by simp; omega
    have n247 : (r != 247) = true := by simp; omega
    have n930 : (r != 930) = true := by simp; omega
    go_enter Tryd.func46, Tryd.ntmps46
    go_wp2_with (go_at_call 18; (with_reducible refine (in_one _ _ _ _).mono ?_); rintro e w' ⟨rfl, hw⟩; obtain rfl := hw.symm; first | rw [decide_eq_true (by omega)] | rw [decide_eq_false (by omega)])
    go_ret
    exact ⟨congrArg (fun z => Ending.returned (.bool z)) (by rw [HD.out]; refine (decide_eq_true ?_).symm; unfold Ltr; omega), rfl⟩
  by_cases h913 : r < 913
  · have c0 : 65 ≤ r := by omega
    have c1 : ¬ r ≤ 90 := by omega
    have c2 : 97 ≤ r := by omega
    have c3 : ¬ r ≤ 122 := by omega
    have c4 : 192 ≤ r := by omega
    have c5 : ¬ r ≤ 591 := by omega
    have c6 : ¬ 913 ≤ r := by omega
    have c7 : r ≤ 969 := by omega
    have n215 : (r != 215) = true := by simp; omega
    have n247 : (r != 247) = true := by simp; omega
    have n930 : (r != 930) = true := by simp; omega
    go_enter Tryd.func46, Tryd.ntmps46
    go_wp2_with (go_at_call 18; (with_reducible refine (in_one _ _ _ _).mono ?_); rintro e w' ⟨rfl, hw⟩; obtain rfl := hw.symm; first | rw [decide_eq_true (by omega)] | rw [decide_eq_false (by omega)])
    go_ret
    exact ⟨congrArg (fun z => Ending.returned (.bool z)) (by rw [HD.out]; refine (decide_eq_false ?_).symm; unfold Ltr; omega), rfl⟩
  by_cases h930 : r < 930
  · have c0 : 65 ≤ r := by omega
    have c1 : ¬ r ≤ 90 := by omega
    have c2 : 97 ≤ r := by omega
    have c3 : ¬ r ≤ 122 := by omega
    have c4 : 192 ≤ r := by omega
    have c5 : ¬ r ≤ 591 := by omega
    have c6 : 913 ≤ r := by omega
    have c7 : r ≤ 969 := by omega
    have n215 : (r != 215) = true := by simp; omega
    have n247 : (r != 247) = true := by simp; omega
    have n930 : (r != 930) = true := by simp; omega
    go_enter Tryd.func46, Tryd.ntmps46
    go_wp2_with (go_at_call 18; (with_reducible refine (in_one _ _ _ _).mono ?_); rintro e w' ⟨rfl, hw⟩; obtain rfl := hw.symm; first | rw [decide_eq_true (by omega)] | rw [decide_eq_false (by omega)])
    go_ret
    exact ⟨congrArg (fun z => Ending.returned (.bool z)) (by rw [HD.out]; refine (decide_eq_true ?_).symm; unfold Ltr; omega), rfl⟩
  by_cases h931 : r < 931
  · have e : r = 930 := by omega
    subst e
    go_enter Tryd.func46, Tryd.ntmps46
    go_wp2_with (go_at_call 18; (with_reducible refine (in_one _ _ _ _).mono ?_); rintro e w' ⟨rfl, hw⟩; obtain rfl := hw.symm; first | rw [decide_eq_true (by omega)] | rw [decide_eq_false (by omega)])
    go_ret
    exact ⟨congrArg (fun z => Ending.returned (.bool z)) (by rw [HD.out]; refine (decide_eq_false ?_).symm; unfold Ltr; omega), rfl⟩
  by_cases h970 : r < 970
  · have c0 : 65 ≤ r := by omega
    have c1 : ¬ r ≤ 90 := by omega
    have c2 : 97 ≤ r := by omega
    have c3 : ¬ r ≤ 122 := by omega
    have c4 : 192 ≤ r := by omega
    have c5 : ¬ r ≤ 591 := by omega
    have c6 : 913 ≤ r := by omega
    have c7 : r ≤ 969 := by omega
    have n215 : (r != 215) = true := by simp; omega
    have n247 : (r != 247) = true := by simp; omega
    have n930 : (r != 930) = true := by simp; omega
    go_enter Tryd.func46, Tryd.ntmps46
    go_wp2_with (go_at_call 18; (with_reducible refine (in_one _ _ _ _).mono ?_); rintro e w' ⟨rfl, hw⟩; obtain rfl := hw.symm; first | rw [decide_eq_true (by omega)] | rw [decide_eq_false (by omega)])
    go_ret
    exact ⟨congrArg (fun z => Ending.returned (.bool z)) (by rw [HD.out]; refine (decide_eq_true ?_).symm; unfold Ltr; omega), rfl⟩
  have c0 : 65 ≤ r := by omega
  have c1 : ¬ r ≤ 90 := by omega
  have c2 : 97 ≤ r := by omega
  have c3 : ¬ r ≤ 122 := by omega
  have c4 : 192 ≤ r := by omega
  have c5 : ¬ r ≤ 591 := by omega
  have c6 : 913 ≤ r := by omega
  have c7 : ¬ r ≤ 969 := by omega
  have n215 : (r != 215) = true := by simp; omega
  have n247 : (r != 247) = true := by simp; omega
  have n930 : (r != 930) = true := by simp; omega
  go_enter Tryd.func46, Tryd.ntmps46
  go_wp2_with (go_at_call 18; (with_reducible refine (in_one _ _ _ _).mono ?_); rintro e w' ⟨rfl, hw⟩; obtain rfl := hw.symm; first | rw [decide_eq_true (by omega)] | rw [decide_eq_false (by omega)])
  go_ret
  exact ⟨congrArg (fun z => Ending.returned (.bool z)) (by rw [HD.out]; refine (decide_eq_false ?_).symm; unfold Ltr; omega), rfl⟩

end Go.Proofs.YtiadfabhpagmpaaDoor
