/- A reader's fault, thrown and caught. -/
import Derived.Test.YtndagpompioooaaDoorEA
import Derived.Test.YtndagpompioooaaDoorC1
import Derived.Defers
import Derived.Recover
import Derived.WalkLawsBesides
import Derived.Stop.Asserts
namespace Go.Proofs.YtndagpompioooaaDoor
open Go.RowKit

open Go.Extern.Stop Go.Stop Go.Extern

/-- What a reader panics with. -/
abbrev flt (c : Int) : Value := .iface 98 (.agg #[.int .i64 c])
abbrev pan (c : Int) : Ending := .panicked [{ v := flt c, recovered := false }]
/-- The variable that errors.As asks. -/
abbrev Eg (w : World) : Prop := w.cell? ⟨0, 0, none⟩ = some (.iface 116 (.agg #[.pointer (some ⟨1, 95, none⟩)]))

theorem need_yes (c : Int) (w : World) : Calls Tryd.prog 84 #[.bool true, .int .i64 c] w fun e w' => e = .returned (.tuple #[]) ∧ w' = w := by
  go_enter Tryd.func84, Tryd.ntmps84
  go_wp2
  go_end0
  exact ⟨rfl, rfl⟩

theorem need_no (c : Int) (w : World) : Calls Tryd.prog 84 #[.bool false, .int .i64 c] w fun e w' => e = pan c ∧ w' = w := by
  go_enter Tryd.func84, Tryd.ntmps84
  go_wp2
  exact ⟨rfl, rfl, rfl⟩

set_option maxHeartbeats 2000000 in
theorem caught_any (c : Int) (w : World) (hg : Eg w) : Calls Tryd.prog 76 #[flt c] w fun e w' => e = .returned (.int .i64 c) ∧ Below w.heap.size w w' := by
  have ta : ∀ W, (Instr.typeAssert (flt c) 20 95 true).run Tryd.prog W = .ok (.tuple #[flt c, .bool true]) W := fun W => run_typeAssert_hasB Tryd.underlying95 (by kernel_rfl) _ 20 W
  have hgA : Eg (w.alloc (.cells #[.int .i64 0] 98)) := (below_one w _).cell (World.block_lt_of_cell? w _ hg) |>.trans hg
  have ha := as_hit c ⟨w.heap.size, 0, none⟩ (.int .i64 0) (w.alloc (.cells #[.int .i64 0] 98)) hgA (by simp) (by simp)
  have HA : Hid (Calls Tryd.prog 89 #[flt c, .iface 100 (.pointer (some ⟨w.heap.size, 0, none⟩))] (w.alloc (.cells #[.int .i64 0] 98)) fun e w' => e = .returned (.bool true) ∧ w'.cell? ⟨w.heap.size, 0, none⟩ = some (.int .i64 c) ∧ Below w.heap.size w w') := by
    refine ha.mono ?_
    rintro e w' ⟨rfl, rfl⟩
    refine ⟨rfl, ?_, ?_⟩
    · refine World.cell?_setCell_same' _ _ _ ?_
      rw [World.cell?_alloc_lt _ _ _ (by simp; omega), World.cell?_alloc_lt _ _ _ (by simp; omega), World.cell?_alloc_lt _ _ _ (by simp; omega), World.cell?_alloc_lt _ _ _ (by simp)]
      simp
    · exact Below.setCell (bstep (bstep (bstep (bstep (below_one _ _) (below_one _ _)) (below_one _ _)) (below_one _ _)) (below_one _ _)) (p := ⟨w.heap.size, 0, none⟩) (Nat.le_refl _) _
  clear hgA ha hg
  go_enter Tryd.func76, Tryd.ntmps76
  go_wp2_with (first | (go_at_call 89; refine HA.out.mono ?_; rintro e w1 ⟨rfl, c1, hb⟩; have B1 : Hid (Below w.heap.size w w1) := hb; clear hb))
  go_ret
  exact ⟨rfl, B1.out⟩

theorem catch_pan (p : Addr) (c : Int) (old : Value) (older : List PanicEntry) (w : World) (hg : Eg w) (hc : w.cell? p = some old) (hz : w.frozen? p = false) :
    CallsD Tryd.prog 75 #[.pointer (some p)] (.panicking ({ v := flt c, recovered := false } :: older)) w fun e u' w' =>
      e = .returned (.tuple #[]) ∧ u' = .panicking ({ v := flt c, recovered := true } :: older) ∧ ∃ w1, Below w.heap.size w w1 ∧ w' = w1.setCell p (.int .i64 c) := by
  refine callsD_of_wpS Tryd.func75 rfl fun c₀ cs hu => ?_
  apply wpS_seq
  apply wpS_region
  simp [wpOpsS, go_sem, recoverD, hu, Tryd.ntmps75, Exit.thenS]
  have hne : ∀ W : World, (binOp BinOp.neq 20 (flt c) .nilIface).run Tryd.prog W = .ok (.bool true) W := fun _ => by kernel_rfl
  have HC : Hid (Calls Tryd.prog 76 #[flt c] w fun e w' => e = .returned (.int .i64 c) ∧ Below w.heap.size w w') := caught_any c w hg
  refine wpS_of_wp ?_
  change Code.wp _ _ _ { tmps := #[.pointer (some p), flt c, flt c, undef, undef, undef, undef], defers := [] } w
  generalize hQ : (fun e a' w' => bodyPostS Tryd.prog Tryd.f75 c₀ cs _ e a' _ w') = Q
  have HQ : Hid _ := hQ
  clear hQ
  have hpl := World.block_lt_of_cell? w _ hc
  go_wp2_with (first | (go_at_call 76; refine HC.out.mono ?_; rintro e w1 ⟨rfl, hb⟩; have B1 : Hid (Below w.heap.size w w1) := hb; have c1 := (hb.cell hpl).trans hc; have z1 := (hb.frozen hpl).trans hz; clear hb))
  rw [← HQ.out]
  exact ⟨rfl, _, rfl, _, results_none rfl _ _ _, rfl, rfl, w1, B1.out, rfl⟩

theorem catch_idle (p : Addr) (w : World) :
    CallsD Tryd.prog 75 #[.pointer (some p)] .returning w fun e u' w' => e = .returned (.tuple #[]) ∧ u' = .returning ∧ w' = w := by
  refine callsD_of_wpS Tryd.func75 rfl fun c₀ cs hu => ?_
  apply wpS_seq
  apply wpS_region
  simp [wpOpsS, go_sem, recoverD, hu, Tryd.ntmps75, Exit.thenS]
  have hne : ∀ W : World, (binOp BinOp.neq 20 .nilIface .nilIface).run Tryd.prog W = .ok (.bool false) W := fun _ => by kernel_rfl
  refine wpS_of_wp ?_
  change Code.wp _ _ _ { tmps := #[.pointer (some p), .nilIface, .nilIface, undef, undef, undef, undef], defers := [] } w
  generalize hQ : (fun e a' w' => bodyPostS Tryd.prog Tryd.f75 c₀ cs _ e a' _ w') = Q
  have HQ : Hid _ := hQ
  clear hQ
  go_wp2
  rw [← HQ.out]
  exact ⟨rfl, .returning, (by cases c₀; simp_all), _, results_none rfl _ _ _, rfl, rfl, rfl⟩

set_option maxHeartbeats 2000000 in
theorem code_ok_ur (caps : Array Value) (w : World) (Q : World → Prop) (h : Calls Tryd.prog 51 caps (w.alloc (.cells #[.int .i64 0] 3)) fun e w' => e = .returned (.tuple #[]) ∧ Q w') (hQ : ∀ w1, Q w1 → w1.cell? ⟨w.heap.size, 0, none⟩ = some (.int .i64 0) ∧ w1.frozen? ⟨w.heap.size, 0, none⟩ = false) :
    Calls Tryd.prog 50 #[.func (.func 51) #[] caps] w fun e w' => e = .returned (.int .i64 0) ∧ ∃ w1, Q w1 ∧ w' = w1.setCell ⟨w.heap.size, 0, none⟩ (.int .i64 0) := by
  have hmf : ∀ (fn : Fn) (first cap : Array Value) (w : World), (Instr.makeFunc fn first cap).run Tryd.prog w = .ok (.func fn first cap) w := fun _ _ _ _ => rfl
  have H : Hid (Calls Tryd.prog 51 caps (w.alloc (.cells #[.int .i64 0] 3)) fun e w' => e = .returned (.tuple #[]) ∧ Q w') := h
  have HQ : Hid (∀ w1, Q w1 → w1.cell? ⟨w.heap.size, 0, none⟩ = some (.int .i64 0) ∧ w1.frozen? ⟨w.heap.size, 0, none⟩ = false) := hQ
  clear h hQ
  go_enter_defers Tryd.func50, Tryd.ntmps50
  go_wp2_with (first | (go_at_call 51; refine H.out.mono ?_; rintro e w1 ⟨rfl, hq⟩; obtain ⟨c1, z1⟩ := HQ.out w1 hq; have HW : Hid (Q w1) := hq; clear hq))
  refine leaves_cons (f := 75) (args := #[.pointer (some ⟨w.heap.size, 0, none⟩)]) (by simp) (by simp [go_sem]) ?_
  refine (catch_idle ⟨w.heap.size, 0, none⟩ _).mono ?_
  rintro e u' w'' ⟨rfl, rfl, rfl⟩
  have c2 : (w1.setCell ⟨w.heap.size, 0, none⟩ (.int .i64 0)).cell? ⟨w.heap.size, 0, none⟩ = some (.int .i64 0) := World.cell?_setCell_same' _ _ _ (by rw [c1]; rfl)
  simp [Leaves, settle, results, Tryd.results50, go_sem, c2]
  exact ⟨w1, HW.out, rfl⟩

set_option maxHeartbeats 2000000 in
theorem code_bad_ur (caps : Array Value) (w : World) (c : Int) (Q : World → Prop) (h : Calls Tryd.prog 51 caps (w.alloc (.cells #[.int .i64 0] 3)) fun e w' => e = pan c ∧ Q w') (hQ : ∀ w1, Q w1 → Eg w1 ∧ w1.cell? ⟨w.heap.size, 0, none⟩ = some (.int .i64 0) ∧ w1.frozen? ⟨w.heap.size, 0, none⟩ = false) :
    Calls Tryd.prog 50 #[.func (.func 51) #[] caps] w fun e w' => e = .returned (.int .i64 c) ∧ ∃ w1 w2, Q w1 ∧ Below w1.heap.size w1 w2 ∧ w' = w2.setCell ⟨w.heap.size, 0, none⟩ (.int .i64 c) := by
  have hmf : ∀ (fn : Fn) (first cap : Array Value) (w : World), (Instr.makeFunc fn first cap).run Tryd.prog w = .ok (.func fn first cap) w := fun _ _ _ _ => rfl
  have H : Hid (Calls Tryd.prog 51 caps (w.alloc (.cells #[.int .i64 0] 3)) fun e w' => e = pan c ∧ Q w') := h
  have HQ : Hid (∀ w1, Q w1 → Eg w1 ∧ w1.cell? ⟨w.heap.size, 0, none⟩ = some (.int .i64 0) ∧ w1.frozen? ⟨w.heap.size, 0, none⟩ = false) := hQ
  clear h hQ
  go_enter_defers Tryd.func50, Tryd.ntmps50
  go_wp2_with (first | (go_at_call 51; refine H.out.mono ?_; rintro e w1 ⟨rfl, hq⟩; obtain ⟨g1, c1, z1⟩ := HQ.out w1 hq; have HW : Hid (Q w1) := hq; clear hq))
  refine leaves_cons (f := 75) (args := #[.pointer (some ⟨w.heap.size, 0, none⟩)]) (by simp) (by simp [go_sem]) ?_
  refine (catch_pan ⟨w.heap.size, 0, none⟩ c (.int .i64 0) [] w1 g1 c1 z1).mono ?_
  rintro e u' w'' ⟨rfl, rfl, w2, hb, rfl⟩
  have c2 : (w2.setCell ⟨w.heap.size, 0, none⟩ (.int .i64 c)).cell? ⟨w.heap.size, 0, none⟩ = some (.int .i64 c) := World.cell?_setCell_same' _ _ _ (by rw [(hb.cell (World.block_lt_of_cell? w1 _ c1)).trans c1]; rfl)
  simp [Leaves, settle, results, Tryd.results50, go_sem, c2]
  exact ⟨w1, HW.out, w2, hb, rfl⟩

set_option maxHeartbeats 2000000 in
theorem code_ok_of (caps : Array Value) (w : World) (Q : World → Prop) (h : Calls Tryd.prog 69 caps (w.alloc (.cells #[.int .i64 0] 3)) fun e w' => e = .returned (.tuple #[]) ∧ Q w') (hQ : ∀ w1, Q w1 → w1.cell? ⟨w.heap.size, 0, none⟩ = some (.int .i64 0) ∧ w1.frozen? ⟨w.heap.size, 0, none⟩ = false) :
    Calls Tryd.prog 50 #[.func (.func 69) #[] caps] w fun e w' => e = .returned (.int .i64 0) ∧ ∃ w1, Q w1 ∧ w' = w1.setCell ⟨w.heap.size, 0, none⟩ (.int .i64 0) := by
  have hmf : ∀ (fn : Fn) (first cap : Array Value) (w : World), (Instr.makeFunc fn first cap).run Tryd.prog w = .ok (.func fn first cap) w := fun _ _ _ _ => rfl
  have H : Hid (Calls Tryd.prog 69 caps (w.alloc (.cells #[.int .i64 0] 3)) fun e w' => e = .returned (.tuple #[]) ∧ Q w') := h
  have HQ : Hid (∀ w1, Q w1 → w1.cell? ⟨w.heap.size, 0, none⟩ = some (.int .i64 0) ∧ w1.frozen? ⟨w.heap.size, 0, none⟩ = false) := hQ
  clear h hQ
  go_enter_defers Tryd.func50, Tryd.ntmps50
  go_wp2_with (first | (go_at_call 69; refine H.out.mono ?_; rintro e w1 ⟨rfl, hq⟩; obtain ⟨c1, z1⟩ := HQ.out w1 hq; have HW : Hid (Q w1) := hq; clear hq))
  refine leaves_cons (f := 75) (args := #[.pointer (some ⟨w.heap.size, 0, none⟩)]) (by simp) (by simp [go_sem]) ?_
  refine (catch_idle ⟨w.heap.size, 0, none⟩ _).mono ?_
  rintro e u' w'' ⟨rfl, rfl, rfl⟩
  have c2 : (w1.setCell ⟨w.heap.size, 0, none⟩ (.int .i64 0)).cell? ⟨w.heap.size, 0, none⟩ = some (.int .i64 0) := World.cell?_setCell_same' _ _ _ (by rw [c1]; rfl)
  simp [Leaves, settle, results, Tryd.results50, go_sem, c2]
  exact ⟨w1, HW.out, rfl⟩

set_option maxHeartbeats 2000000 in
theorem code_bad_of (caps : Array Value) (w : World) (c : Int) (Q : World → Prop) (h : Calls Tryd.prog 69 caps (w.alloc (.cells #[.int .i64 0] 3)) fun e w' => e = pan c ∧ Q w') (hQ : ∀ w1, Q w1 → Eg w1 ∧ w1.cell? ⟨w.heap.size, 0, none⟩ = some (.int .i64 0) ∧ w1.frozen? ⟨w.heap.size, 0, none⟩ = false) :
    Calls Tryd.prog 50 #[.func (.func 69) #[] caps] w fun e w' => e = .returned (.int .i64 c) ∧ ∃ w1 w2, Q w1 ∧ Below w1.heap.size w1 w2 ∧ w' = w2.setCell ⟨w.heap.size, 0, none⟩ (.int .i64 c) := by
  have hmf : ∀ (fn : Fn) (first cap : Array Value) (w : World), (Instr.makeFunc fn first cap).run Tryd.prog w = .ok (.func fn first cap) w := fun _ _ _ _ => rfl
  have H : Hid (Calls Tryd.prog 69 caps (w.alloc (.cells #[.int .i64 0] 3)) fun e w' => e = pan c ∧ Q w') := h
  have HQ : Hid (∀ w1, Q w1 → Eg w1 ∧ w1.cell? ⟨w.heap.size, 0, none⟩ = some (.int .i64 0) ∧ w1.frozen? ⟨w.heap.size, 0, none⟩ = false) := hQ
  clear h hQ
  go_enter_defers Tryd.func50, Tryd.ntmps50
  go_wp2_with (first | (go_at_call 69; refine H.out.mono ?_; rintro e w1 ⟨rfl, hq⟩; obtain ⟨g1, c1, z1⟩ := HQ.out w1 hq; have HW : Hid (Q w1) := hq; clear hq))
  refine leaves_cons (f := 75) (args := #[.pointer (some ⟨w.heap.size, 0, none⟩)]) (by simp) (by simp [go_sem]) ?_
  refine (catch_pan ⟨w.heap.size, 0, none⟩ c (.int .i64 0) [] w1 g1 c1 z1).mono ?_
  rintro e u' w'' ⟨rfl, rfl, w2, hb, rfl⟩
  have c2 : (w2.setCell ⟨w.heap.size, 0, none⟩ (.int .i64 c)).cell? ⟨w.heap.size, 0, none⟩ = some (.int .i64 c) := World.cell?_setCell_same' _ _ _ (by rw [(hb.cell (World.block_lt_of_cell? w1 _ c1)).trans c1]; rfl)
  simp [Leaves, settle, results, Tryd.results50, go_sem, c2]
  exact ⟨w1, HW.out, w2, hb, rfl⟩
end Go.Proofs.YtndagpompioooaaDoor
