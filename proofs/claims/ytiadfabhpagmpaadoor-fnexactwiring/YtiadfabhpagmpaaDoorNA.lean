/- Letters of names: the program. -/
import Derived.Test.YtiadfabhpagmpaaDoorPA
namespace Go.Proofs.YtiadfabhpagmpaaDoor
open Go.RowKit

/-- A letter of a name. -/
def Ltr (r : Int) : Prop := (65 ≤ r ∧ r ≤ 90) ∨ (97 ≤ r ∧ r ≤ 122) ∨ ((192 ≤ r ∧ r ≤ 591) ∧ r ≠ 215 ∧ r ≠ 247) ∨ ((913 ≤ r ∧ r ≤ 969) ∧ r ≠ 930)
instance (r : Int) : Decidable (Ltr r) := by unfold Ltr; infer_instance


set_option maxHeartbeats 1000000 in
theorem iLtr_any (r : Int) (w : World) : Calls Tryd.prog 52 #[.int .i32 r] w fun e w' => e = .returned (.bool (decide (Ltr r))) ∧ w' = w := by
  obtain ⟨d, hd⟩ : ∃ d, d = decide (Ltr r) := ⟨_, rfl⟩
  rw [← hd]
  have HD : Hid _ := hd
  clear hd
  by_cases h65 : r < 65
  · have c0 : ¬ 65 ≤ r := by omega
    have c1 : r ≤ 90 := by omega
    have c2 : ¬ 97 ≤ r := by omega
    have c3 : r ≤ 122 := by omega
    have c4 : ¬ 192 ≤ r := by omega
    have c5 : r ≤ 591 := by omega
    have c6 : ¬ 913 ≤ r := by omega
    have c7 : r ≤ 969 := by omega
    have n215 : (r != 215) = true := by simp; omega
    have n247 : (r != 247) = true := by simp; omega
    have n930 : (r != 930) = true := by simp; omega
    go_enter Tryd.func52, Tryd.ntmps52
    go_wp2
    go_ret
    exact ⟨congrArg (fun z => Ending.returned (.bool z)) (by rw [HD.out]; refine (decide_eq_false ?_).symm; unfold Ltr; omega), rfl⟩
  by_cases h91 : r < 91
  · have c0 : 65 ≤ r := by omega
    have c1 : r ≤ 90 := by omega
    have c2 : ¬ 97 ≤ r := by omega
    have c3 : r ≤ 122 := by omega
    have c4 : ¬ 192 ≤ r := by omega
    have c5 : r ≤ 591 := by omega
    have c6 : ¬ 913 ≤ r := by omega
    have c7 : r ≤ 969 := by omega
    have n215 : (r != 215) = true := by simp; omega
    have n247 : (r != 247) = true := by simp; omega
    have n930 : (r != 930) = true := by simp; omega
    go_enter Tryd.func52, Tryd.ntmps52
    go_wp2
    go_ret
    exact ⟨congrArg (fun z => Ending.returned (.bool z)) (by rw [HD.out]; refine (decide_eq_true ?_).symm; unfold Ltr; omega), rfl⟩
  by_cases h97 : r < 97
  · have c0 : 65 ≤ r := by omega
    have c1 : ¬ r ≤ 90 := by omega
    have c2 : ¬ 97 ≤ r := by omega
    have c3 : r ≤ 122 := by omega
    have c4 : ¬ 192 ≤ r := by omega
    have c5 : r ≤ 591 := by omega
    have c6 : ¬ 913 ≤ r := by omega
    have c7 : r ≤ 969 := by omega
    have n215 : (r != 215) = true := by simp; omega
    have n247 : (r != 247) = true := by simp; omega
    have n930 : (r != 930) = true := by simp; omega
    go_enter Tryd.func52, Tryd.ntmps52
    go_wp2
    go_ret
    exact ⟨congrArg (fun z => Ending.returned (.bool z)) (by rw [HD.out]; refine (decide_eq_false ?_).symm; unfold Ltr; omega), rfl⟩
  by_cases h123 : r < 123
  · have c0 : 65 ≤ r := by omega
    have c1 : ¬ r ≤ 90 := by omega
    have c2 : 97 ≤ r := by omega
    have c3 : r ≤ 122 := by omega
    have c4 : ¬ 192 ≤ r := by omega
    have c5 : r ≤ 591 := by omega
    have c6 : ¬ 913 ≤ r := by omega
    have c7 : r ≤ 969 := by omega
    have n215 : (r != 215) = true := by simp; omega
    have n247 : (r != 247) = true := by simp; omega
    have n930 : (r != 930) = true := by simp; omega
    go_enter Tryd.func52, Tryd.ntmps52
    go_wp2
    go_ret
    exact ⟨congrArg (fun z => Ending.returned (.bool z)) (by rw [HD.out]; refine (decide_eq_true ?_).symm; unfold Ltr; omega), rfl⟩
  by_cases h192 : r < 192
  · have c0 : 65 ≤ r := by omega
    have c1 : ¬ r ≤ 90 := by omega
    have c2 : 97 ≤ r := by omega
    have c3 : ¬ r ≤ 122 := by omega
    have c4 : ¬ 192 ≤ r := by omega
    have c5 : r ≤ 591 := by omega
    have c6 : ¬ 913 ≤ r := by omega
    have c7 : r ≤ 969 := by omega
    have n215 : (r != 215) = true := by simp; omega
    have n247 : (r != 247) = true := by simp; omega
    have n930 : (r != 930) = true := by simp; omega
    go_enter Tryd.func52, Tryd.ntmps52
    go_wp2
    go_ret
    exact ⟨congrArg (fun z => Ending.returned (.bool z)) (by rw [HD.out]; refine (decide_eq_false ?_).symm; unfold Ltr; omega), rfl⟩
  by_cases h215 : r < 215
  · have c0 : 65 ≤ r := by omega
    have c1 : ¬ r ≤ 90 := by omega
    have c2 : 97 ≤ r := by omega
    have c3 : ¬ r ≤ 122 := by omega
    have c4 : 192 ≤ r := by omega
    have c5 : r ≤ 591 := by omega
    have c6 : ¬ 913 ≤ r := by omega
    have c7 : r ≤ 969 := by omega
    have n215 : (r != 215) = true := by simp; omega
    have n247 : (r != 247) = true := by simp; omega
    have n930 : (r != 930) = true := by simp; omega
    go_enter Tryd.func52, Tryd.ntmps52
    go_wp2
    go_ret
    exact ⟨congrArg (fun z => Ending.returned (.bool z)) (by rw [HD.out]; refine (decide_eq_true ?_).symm; unfold Ltr; omega), rfl⟩
  by_cases h216 : r < 216
  · have e : r = 215 := by omega
    subst e
    go_enter Tryd.func52, Tryd.ntmps52
    go_wp2
    go_ret
    exact ⟨congrArg (fun z => Ending.returned (.bool z)) (by rw [HD.out]; refine (decide_eq_false ?_).symm; unfold Ltr; omega), rfl⟩
  by_cases h247 : r < 247
  · have c0 : 65 ≤ r := by omega
    have c1 : ¬ r ≤ 90 := by omega
    have c2 : 97 ≤ r := by omega
    have c3 : ¬ r ≤ 122 := by omega
    have c4 : 192 ≤ r := by omega
    have c5 : r ≤ 591 := by omega
    have c6 : ¬ 913 ≤ r := by omega
    have c7 : r ≤ 969 := by omega
    have n215 : (r != 215) = true := by simp; omega
    have n247 : (r != 247) = true := by simp; omega
    have n930 : (r != 930) = true := by simp; omega
    go_enter Tryd.func52, Tryd.ntmps52
    go_wp2
    go_ret
    exact ⟨congrArg (fun z => Ending.returned (.bool z)) (by rw [HD.out]; refine (decide_eq_true ?_).symm; unfold Ltr; omega), rfl⟩
  by_cases h248 : r < 248
  · have e : r = 247 := by omega
    subst e
    go_enter Tryd.func52, Tryd.ntmps52
    go_wp2
    go_ret
    exact ⟨congrArg (fun z => Ending.returned (.bool z)) (by rw [HD.out]; refine (decide_eq_false ?_).symm; unfold Ltr; omega), rfl⟩
  by_cases h592 : r < 592
  · have c0 : 65 ≤ r := by omega
    have c1 : ¬ r ≤ 90 := by omega
    have c2 : 97 ≤ r := by omega
    have c3 : ¬ r ≤ 122 := by omega
    have c4 : 192 ≤ r := by omega
    have c5 : r ≤ 591 := by omega
    have c6 : ¬ 913 ≤ r := by omega
    have c7 : r ≤ 969 := by omega
    have n215 : (r != 215) = true := by simp; omega
    have n247 : (r != 247) = true := by simp; omega
    have n930 : (r != 930) = true := by simp; omega
    go_enter Tryd.func52, Tryd.ntmps52
    go_wp2
    go_ret
    exact ⟨congrArg (fun z => Ending.returned (.bool z)) (by rw [HD.out]; refine (decide_eq_true ?_).symm; unfold Ltr; omega), rfl⟩
  by_cases h913 : r < 913
  · have c0 : 65 ≤ r := by omega
    have c1 : ¬ r ≤ 90 := by omega
    have c2 : 97 ≤ r := by omega
    have c3 : ¬ r ≤ 122 := by omega
    have c4 : 192 ≤ r := by omega
    have c5 : ¬ r ≤ 591 := by omega
    have c6 : ¬ 913 ≤ r := by omega
    have c7 : r ≤ 969 := by omega
    have n215 : (r != 215) = true := by simp; omega
    have n247 : (r != 247) = true := by simp; omega
    have n930 : (r != 930) = true := by simp; omega
    go_enter Tryd.func52, Tryd.ntmps52
    go_wp2
    go_ret
    exact ⟨congrArg (fun z => Ending.returned (.bool z)) (by rw [HD.out]; refine (decide_eq_false ?_).symm; unfold Ltr; omega), rfl⟩
  by_cases h930 : r < 930
  · have c0 : 65 ≤ r := by omega
    have c1 : ¬ r ≤ 90 := by omega
    have c2 : 97 ≤ r := by omega
    have c3 : ¬ r ≤ 122 := by omega
    have c4 : 192 ≤ r := by omega
    have c5 : ¬ r ≤ 591 := by omega
    have c6 : 913 ≤ r := by omega
    have c7 : r ≤ 969 := by omega
    have n215 : (r != 215) = true := by simp; omega
    have n247 : (r != 247) = true := by simp; omega
    have n930 : (r != 930) = true := by simp; omega
    go_enter Tryd.func52, Tryd.ntmps52
    go_wp2
    go_ret
    exact ⟨congrArg (fun z => Ending.returned (.bool z)) (by rw [HD.out]; refine (decide_eq_true ?_).symm; unfold Ltr; omega), rfl⟩
  by_cases h931 : r < 931
  · have e : r = 930 := by omega
    subst e
    go_enter Tryd.func52, Tryd.ntmps52
    go_wp2
    go_ret
    exact ⟨congrArg (fun z => Ending.returned (.bool z)) (by rw [HD.out]; refine (decide_eq_false ?_).symm; unfold Ltr; omega), rfl⟩
  by_cases h970 : r < 970
  · have c0 : 65 ≤ r := by omega
    have c1 : ¬ r ≤ 90 := by omega
    have c2 : 97 ≤ r := by omega
    have c3 : ¬ r ≤ 122 := by omega
    have c4 : 192 ≤ r := by omega
    have c5 : ¬ r ≤ 591 := by omega
    have c6 : 913 ≤ r := by omega
    have c7 : r ≤ 969 := by omega
    have n215 : (r != 215) = true := by simp; omega
    have n247 : (r != 247) = true := by simp; omega
    have n930 : (r != 930) = true := by simp; omega
    go_enter Tryd.func52, Tryd.ntmps52
    go_wp2
    go_ret
    exact ⟨congrArg (fun z => Ending.returned (.bool z)) (by rw [HD.out]; refine (decide_eq_true ?_).symm; unfold Ltr; omega), rfl⟩
  have c0 : 65 ≤ r := by omega
  have c1 : ¬ r ≤ 90 := by omega
  have c2 : 97 ≤ r := by omega
  have c3 : ¬ r ≤ 122 := by omega
  have c4 : 192 ≤ r := by omega
  have c5 : ¬ r ≤ 591 := by omega
  have c6 : 913 ≤ r := by omega
  have c7 : ¬ r ≤ 969 := by omega
  have n215 : (r != 215) = true := by simp; omega
  have n247 : (r != 247) = true := by simp; omega
  have n930 : (r != 930) = true := by simp; omega
  go_enter Tryd.func52, Tryd.ntmps52
  go_wp2
  go_ret
  exact ⟨congrArg (fun z => Ending.returned (.bool z)) (by rw [HD.out]; refine (decide_eq_false ?_).symm; unfold Ltr; omega), rfl⟩

end Go.Proofs.YtiadfabhpagmpaaDoor
