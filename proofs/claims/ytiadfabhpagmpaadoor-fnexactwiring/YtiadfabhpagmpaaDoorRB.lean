/- The wire of a link. -/
import Derived.Test.YtiadfabhpagmpaaDoorWA
import Derived.Test.YtiadfabhpagmpaaDoorPE
import Derived.WalkKit
import Derived.WalkSpells
import Derived.WalkLawsBesides
import Derived.Deep.QuietTactic
import Derived.BigQuiet
import Derived.BigRegion
import Derived.Deep.Cut
namespace Go.Proofs.YtiadfabhpagmpaaDoor
open Go.RowKit

/-- A link's wire. -/
def wrf (l : Lk) (a b : Nd) : Wr := ⟨l.fr, l.to, if a.kd = 6 then a.nn else 1, if b.kd = 7 ∨ b.kd = 8 then b.nn else 1, if a.kd = 5 then a.nn else 0⟩

set_option maxHeartbeats 8000000 in
theorem wireOf_any (l : Lk) (a b : Nd) (w : World) : Calls Tryd.prog 29 #[l.v, a.v, b.v] w fun e w' => e = .returned (wrf l a b).v ∧ Below w.heap.size w w' := by
  obtain ⟨r, hr⟩ : ∃ r, r = wrf l a b := ⟨_, rfl⟩
  have HR : Hid (r = wrf l a b) := hr
  rw [← hr]
  clear hr
  by_cases h6 : a.kd = 6
  · have hb6 : (a.kd == 6) = true := by simp [h6]
    have hb5 : (a.kd == 5) = false := beq_false_of_ne (by omega)
    have h5 : ¬ a.kd = 5 := by omega
    by_cases h7 : b.kd = 7
    · have hb7 : (b.kd == 7) = true := by simp [h7]
      have HV : Hid (r.v = .agg #[.int .i64 l.fr, .int .i64 l.to, .int .i64 (if a.kd = 6 then a.nn else 1), .int .i64 b.nn, .int .i64 (if a.kd = 5 then a.nn else 0)]) := by show r.v = _; rw [HR.out]; simp [wrf, h7]
      (first | rw [if_pos h6, if_neg h5] at HV | rw [if_neg h6, if_pos h5] at HV | rw [if_neg h6, if_neg h5] at HV)
      clear h6 h5 h7
      go_enter Tryd.func29, Tryd.ntmps29
      go_wp2
      refine bodyPost_ret (v := r.v) (by rw [HV.out]; simp [results, go_sem]) rfl ⟨rfl, ?_⟩
      exact bstep (bstep (bstep (bstep (below_one _ _) (below_one _ _)) (below_one _ _)) (below_one _ _)) (below_one _ _)
    by_cases h8 : b.kd = 8
    · have hb7 : (b.kd == 7) = false := beq_false_of_ne h7
      have hb8 : (b.kd == 8) = true := by simp [h8]
      have HV : Hid (r.v = .agg #[.int .i64 l.fr, .int .i64 l.to, .int .i64 (if a.kd = 6 then a.nn else 1), .int .i64 b.nn, .int .i64 (if a.kd = 5 then a.nn else 0)]) := by show r.v = _; rw [HR.out]; simp [wrf, h8]
      (first | rw [if_pos h6, if_neg h5] at HV | rw [if_neg h6, if_pos h5] at HV | rw [if_neg h6, if_neg h5] at HV)
      clear h6 h5 h7
      go_enter Tryd.func29, Tryd.ntmps29
      go_wp2
      refine bodyPost_ret (v := r.v) (by rw [HV.out]; simp [results, go_sem]) rfl ⟨rfl, ?_⟩
      exact bstep (bstep (bstep (bstep (below_one _ _) (below_one _ _)) (below_one _ _)) (below_one _ _)) (below_one _ _)
    · have hb7 : (b.kd == 7) = false := beq_false_of_ne h7
      have hb8 : (b.kd == 8) = false := beq_false_of_ne h8
      have HV : Hid (r.v = .agg #[.int .i64 l.fr, .int .i64 l.to, .int .i64 (if a.kd = 6 then a.nn else 1), .int .i64 1, .int .i64 (if a.kd = 5 then a.nn else 0)]) := by show r.v = _; rw [HR.out]; simp [wrf, h7, h8]
      (first | rw [if_pos h6, if_neg h5] at HV | rw [if_neg h6, if_pos h5] at HV | rw [if_neg h6, if_neg h5] at HV)
      clear h6 h5 h7
      go_enter Tryd.func29, Tryd.ntmps29
      go_wp2
      refine bodyPost_ret (v := r.v) (by rw [HV.out]; simp [results, go_sem]) rfl ⟨rfl, ?_⟩
      exact bstep (bstep (bstep (bstep (below_one _ _) (below_one _ _)) (below_one _ _)) (below_one _ _)) (below_one _ _)
  by_cases h5 : a.kd = 5
  · have hb6 : (a.kd == 6) = false := beq_false_of_ne h6
    have hb5 : (a.kd == 5) = true := by simp [h5]
    by_cases h7 : b.kd = 7
    · have hb7 : (b.kd == 7) = true := by simp [h7]
      have HV : Hid (r.v = .agg #[.int .i64 l.fr, .int .i64 l.to, .int .i64 (if a.kd = 6 then a.nn else 1), .int .i64 b.nn, .int .i64 (if a.kd = 5 then a.nn else 0)]) := by show r.v = _; rw [HR.out]; simp [wrf, h7]
      (first | rw [if_pos h6, if_neg h5] at HV | rw [if_neg h6, if_pos h5] at HV | rw [if_neg h6, if_neg h5] at HV)
      clear h6 h5 h7
      go_enter Tryd.func29, Tryd.ntmps29
      go_wp2
      refine bodyPost_ret (v := r.v) (by rw [HV.out]; simp [results, go_sem]) rfl ⟨rfl, ?_⟩
      exact bstep (bstep (bstep (bstep (below_one _ _) (below_one _ _)) (below_one _ _)) (below_one _ _)) (below_one _ _)
    by_cases h8 : b.kd = 8
    · have hb7 : (b.kd == 7) = false := beq_false_of_ne h7
      have hb8 : (b.kd == 8) = true := by simp [h8]
      have HV : Hid (r.v = .agg #[.int .i64 l.fr, .int .i64 l.to, .int .i64 (if a.kd = 6 then a.nn else 1), .int .i64 b.nn, .int .i64 (if a.kd = 5 then a.nn else 0)]) := by show r.v = _; rw [HR.out]; simp [wrf, h8]
      (first | rw [if_pos h6, if_neg h5] at HV | rw [if_neg h6, if_pos h5] at HV | rw [if_neg h6, if_neg h5] at HV)
      clear h6 h5 h7
      go_enter Tryd.func29, Tryd.ntmps29
      go_wp2
      refine bodyPost_ret (v := r.v) (by rw [HV.out]; simp [results, go_sem]) rfl ⟨rfl, ?_⟩
      exact bstep (bstep (bstep (bstep (below_one _ _) (below_one _ _)) (below_one _ _)) (below_one _ _)) (below_one _ _)
    · have hb7 : (b.kd == 7) = false := beq_false_of_ne h7
      have hb8 : (b.kd == 8) = false := beq_false_of_ne h8
      have HV : Hid (r.v = .agg #[.int .i64 l.fr, .int .i64 l.to, .int .i64 (if a.kd = 6 then a.nn else 1), .int .i64 1, .int .i64 (if a.kd = 5 then a.nn else 0)]) := by show r.v = _; rw [HR.out]; simp [wrf, h7, h8]
      (first | rw [if_pos h6, if_neg h5] at HV | rw [if_neg h6, if_pos h5] at HV | rw [if_neg h6, if_neg h5] at HV)
      clear h6 h5 h7
      go_enter Tryd.func29, Tryd.ntmps29
      go_wp2
      refine bodyPost_ret (v := r.v) (by rw [HV.out]; simp [results, go_sem]) rfl ⟨rfl, ?_⟩
      exact bstep (bstep (bstep (bstep (below_one _ _) (below_one _ _)) (below_one _ _)) (below_one _ _)) (below_one _ _)
  · have hb6 : (a.kd == 6) = false := beq_false_of_ne h6
    have hb5 : (a.kd == 5) = false := beq_false_of_ne h5
    by_cases h7 : b.kd = 7
    · have hb7 : (b.kd == 7) = true := by simp [h7]
      have HV : Hid (r.v = .agg #[.int .i64 l.fr, .int .i64 l.to, .int .i64 (if a.kd = 6 then a.nn else 1), .int .i64 b.nn, .int .i64 (if a.kd = 5 then a.nn else 0)]) := by show r.v = _; rw [HR.out]; simp [wrf, h7]
      (first | rw [if_pos h6, if_neg h5] at HV | rw [if_neg h6, if_pos h5] at HV | rw [if_neg h6, if_neg h5] at HV)
      clear h6 h5 h7
      go_enter Tryd.func29, Tryd.ntmps29
      go_wp2
      refine bodyPost_ret (v := r.v) (by rw [HV.out]; simp [results, go_sem]) rfl ⟨rfl, ?_⟩
      exact bstep (bstep (bstep (bstep (below_one _ _) (below_one _ _)) (below_one _ _)) (below_one _ _)) (below_one _ _)
    by_cases h8 : b.kd = 8
    · have hb7 : (b.kd == 7) = false := beq_false_of_ne h7
      have hb8 : (b.kd == 8) = true := by simp [h8]
      have HV : Hid (r.v = .agg #[.int .i64 l.fr, .int .i64 l.to, .int .i64 (if a.kd = 6 then a.nn else 1), .int .i64 b.nn, .int .i64 (if a.kd = 5 then a.nn else 0)]) := by show r.v = _; rw [HR.out]; simp [wrf, h8]
      (first | rw [if_pos h6, if_neg h5] at HV | rw [if_neg h6, if_pos h5] at HV | rw [if_neg h6, if_neg h5] at HV)
      clear h6 h5 h7
      go_enter Tryd.func29, Tryd.ntmps29
      go_wp2
      refine bodyPost_ret (v := r.v) (by rw [HV.out]; simp [results, go_sem]) rfl ⟨rfl, ?_⟩
      exact bstep (bstep (bstep (bstep (below_one _ _) (below_one _ _)) (below_one _ _)) (below_one _ _)) (below_one _ _)
    · have hb7 : (b.kd == 7) = false := beq_false_of_ne h7
      have hb8 : (b.kd == 8) = false := beq_false_of_ne h8
      have HV : Hid (r.v = .agg #[.int .i64 l.fr, .int .i64 l.to, .int .i64 (if a.kd = 6 then a.nn else 1), .int .i64 1, .int .i64 (if a.kd = 5 then a.nn else 0)]) := by show r.v = _; rw [HR.out]; simp [wrf, h7, h8]
      (first | rw [if_pos h6, if_neg h5] at HV | rw [if_neg h6, if_pos h5] at HV | rw [if_neg h6, if_neg h5] at HV)
      clear h6 h5 h7
      go_enter Tryd.func29, Tryd.ntmps29
      go_wp2
      refine bodyPost_ret (v := r.v) (by rw [HV.out]; simp [results, go_sem]) rfl ⟨rfl, ?_⟩
      exact bstep (bstep (bstep (bstep (below_one _ _) (below_one _ _)) (below_one _ _)) (below_one _ _)) (below_one _ _)

end Go.Proofs.YtiadfabhpagmpaaDoor
