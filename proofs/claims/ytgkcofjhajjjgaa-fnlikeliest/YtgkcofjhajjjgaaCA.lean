/- A coder: its functions. -/
import Derived.Test.YtgkcofjhajjjgaaOA
import Derived.Test.YtgkcofjhajjjgaaAW
namespace Go.Proofs.Ytgkcofjhajjjgaa
open Go.RowKit

/-- A coder: memory and two masks. -/
def pw (m : Int) : Int := 2 ^ m.toNat
def Mk (m a : Int) : Prop := 1 ≤ a ∧ a < 2 * pw m
def Cd (m a b : Int) : Prop := (1 ≤ m ∧ m ≤ 6) ∧ Mk m a ∧ Mk m b
instance (m a : Int) : Decidable (Mk m a) := by unfold Mk; infer_instance
instance (m a b : Int) : Decidable (Cd m a b) := by unfold Cd; infer_instance

theorem six {m : Int} (h : 1 ≤ m ∧ m ≤ 6) : m = 1 ∨ m = 2 ∨ m = 3 ∨ m = 4 ∨ m = 5 ∨ m = 6 := by omega

theorem pw_bounds {m : Int} (h : 1 ≤ m ∧ m ≤ 6) : 2 ≤ pw m ∧ pw m ≤ 64 := by
  rcases six h with rfl | rfl | rfl | rfl | rfl | rfl
  all_goals exact ⟨by decide, by decide⟩

/-- A coder in a block of memory. -/
abbrev cdv (m a b : Int) : Value := .agg #[.int .i64 m, .int .i64 a, .int .i64 b]
abbrev stv (c l : Int) : Value := .agg #[.int .i64 c, .int .i64 l]

set_option maxHeartbeats 2000000 in
theorem mask_any {m a b x : Int} (hm : 1 ≤ m ∧ m ≤ 6) (w : World) : Calls Try.prog 56 #[cdv m a b, .int .i64 x] w fun e w' => e = .returned (.bool (decide (Mk m x))) ∧ Below w.heap.size w w' := by
  rcases six hm with rfl | rfl | rfl | rfl | rfl | rfl
  · have e0 : 2 * pw 1 = 4 := by decide
    obtain ⟨d, hd⟩ : ∃ d, d = decide (Mk 1 x) := ⟨_, rfl⟩
    rw [← hd]
    have HD : Hid (d = decide (Mk 1 x)) := hd
    have E0 : Hid (2 * pw 1 = 4) := e0
    clear hd hm e0
    by_cases h1 : 1 ≤ x
    · go_enter Try.func56, Try.ntmps56
      go_wp2
      go_ret
      refine ⟨congrArg (fun z => Ending.returned (.bool z)) ?_, below_one _ _⟩
      rw [HD.out]
      refine decide_eq_decide.2 ?_
      unfold Mk
      rw [E0.out]
      omega
    · go_enter Try.func56, Try.ntmps56
      go_wp2
      go_ret
      refine ⟨congrArg (fun z => Ending.returned (.bool z)) ?_, below_one _ _⟩
      rw [HD.out]
      exact (decide_eq_false (fun h => (by have := h.1; omega))).symm
  · have e0 : 2 * pw 2 = 8 := by decide
    obtain ⟨d, hd⟩ : ∃ d, d = decide (Mk 2 x) := ⟨_, rfl⟩
    rw [← hd]
    have HD : Hid (d = decide (Mk 2 x)) := hd
    have E0 : Hid (2 * pw 2 = 8) := e0
    clear hd hm e0
    by_cases h1 : 1 ≤ x
    · go_enter Try.func56, Try.ntmps56
      go_wp2
      go_ret
      refine ⟨congrArg (fun z => Ending.returned (.bool z)) ?_, below_one _ _⟩
      rw [HD.out]
      refine decide_eq_decide.2 ?_
      unfold Mk
      rw [E0.out]
      omega
    · go_enter Try.func56, Try.ntmps56
      go_wp2
      go_ret
      refine ⟨congrArg (fun z => Ending.returned (.bool z)) ?_, below_one _ _⟩
      rw [HD.out]
      exact (decide_eq_false (fun h => (by have := h.1; omega))).symm
  · have e0 : 2 * pw 3 = 16 := by decide
    obtain ⟨d, hd⟩ : ∃ d, d = decide (Mk 3 x) := ⟨_, rfl⟩
    rw [← hd]
    have HD : Hid (d = decide (Mk 3 x)) := hd
    have E0 : Hid (2 * pw 3 = 16) := e0
    clear hd hm e0
    by_cases h1 : 1 ≤ x
    · go_enter Try.func56, Try.ntmps56
      go_wp2
      go_ret
      refine ⟨congrArg (fun z => Ending.returned (.bool z)) ?_, below_one _ _⟩
      rw [HD.out]
      refine decide_eq_decide.2 ?_
      unfold Mk
      rw [E0.out]
      omega
    · go_enter Try.func56, Try.ntmps56
      go_wp2
      go_ret
      refine ⟨congrArg (fun z => Ending.returned (.bool z)) ?_, below_one _ _⟩
      rw [HD.out]
      exact (decide_eq_false (fun h => (by have := h.1; omega))).symm
  · have e0 : 2 * pw 4 = 32 := by decide
    obtain ⟨d, hd⟩ : ∃ d, d = decide (Mk 4 x) := ⟨_, rfl⟩
    rw [← hd]
    have HD : Hid (d = decide (Mk 4 x)) := hd
    have E0 : Hid (2 * pw 4 = 32) := e0
    clear hd hm e0
    by_cases h1 : 1 ≤ x
    · go_enter Try.func56, Try.ntmps56
      go_wp2
      go_ret
      refine ⟨congrArg (fun z => Ending.returned (.bool z)) ?_, below_one _ _⟩
      rw [HD.out]
      refine decide_eq_decide.2 ?_
      unfold Mk
      rw [E0.out]
      omega
    · go_enter Try.func56, Try.ntmps56
      go_wp2
      go_ret
      refine ⟨congrArg (fun z => Ending.returned (.bool z)) ?_, below_one _ _⟩
      rw [HD.out]
      exact (decide_eq_false (fun h => (by have := h.1; omega))).symm
  · have e0 : 2 * pw 5 = 64 := by decide
    obtain ⟨d, hd⟩ : ∃ d, d = decide (Mk 5 x) := ⟨_, rfl⟩
    rw [← hd]
    have HD : Hid (d = decide (Mk 5 x)) := hd
    have E0 : Hid (2 * pw 5 = 64) := e0
    clear hd hm e0
    by_cases h1 : 1 ≤ x
    · go_enter Try.func56, Try.ntmps56
      go_wp2
      go_ret
      refine ⟨congrArg (fun z => Ending.returned (.bool z)) ?_, below_one _ _⟩
      rw [HD.out]
      refine decide_eq_decide.2 ?_
      unfold Mk
      rw [E0.out]
      omega
    · go_enter Try.func56, Try.ntmps56
      go_wp2
      go_ret
      refine ⟨congrArg (fun z => Ending.returned (.bool z)) ?_, below_one _ _⟩
      rw [HD.out]
      exact (decide_eq_false (fun h => (by have := h.1; omega))).symm
  · have e0 : 2 * pw 6 = 128 := by decide
    obtain ⟨d, hd⟩ : ∃ d, d = decide (Mk 6 x) := ⟨_, rfl⟩
    rw [← hd]
    have HD : Hid (d = decide (Mk 6 x)) := hd
    have E0 : Hid (2 * pw 6 = 128) := e0
    clear hd hm e0
    by_cases h1 : 1 ≤ x
    · go_enter Try.func56, Try.ntmps56
      go_wp2
      go_ret
      refine ⟨congrArg (fun z => Ending.returned (.bool z)) ?_, below_one _ _⟩
      rw [HD.out]
      refine decide_eq_decide.2 ?_
      unfold Mk
      rw [E0.out]
      omega
    · go_enter Try.func56, Try.ntmps56
      go_wp2
      go_ret
      refine ⟨congrArg (fun z => Ending.returned (.bool z)) ?_, below_one _ _⟩
      rw [HD.out]
      exact (decide_eq_false (fun h => (by have := h.1; omega))).symm

/-- What lies in a block: a coder, a state. -/
structure Cdm (w : World) (g : Nat) (m a b : Int) : Prop where
  c0 : w.cell? ⟨g, 0, none⟩ = some (.int .i64 m)
  c1 : w.cell? ⟨g, 1, none⟩ = some (.int .i64 a)
  c2 : w.cell? ⟨g, 2, none⟩ = some (.int .i64 b)
structure Stm (w : World) (g : Nat) (c l : Int) : Prop where
  c0 : w.cell? ⟨g, 0, none⟩ = some (.int .i64 c)
  c1 : w.cell? ⟨g, 1, none⟩ = some (.int .i64 l)
  z0 : w.frozen? ⟨g, 0, none⟩ = false
  z1 : w.frozen? ⟨g, 1, none⟩ = false

theorem Cdm.below {w w' : World} {g : Nat} {m a b : Int} (h : Cdm w g m a b) (hb : Below w.heap.size w w') : Cdm w' g m a b :=
  ⟨(hb.cell (World.block_lt_of_cell? w _ h.c0)).trans h.c0, (hb.cell (World.block_lt_of_cell? w _ h.c1)).trans h.c1, (hb.cell (World.block_lt_of_cell? w _ h.c2)).trans h.c2⟩
theorem Stm.lt {w : World} {g : Nat} {c l : Int} (h : Stm w g c l) : g < w.heap.size := World.block_lt_of_cell? w _ h.c0
theorem Stm.below {w w' : World} {g : Nat} {c l : Int} (h : Stm w g c l) (hb : Below w.heap.size w w') : Stm w' g c l :=
  ⟨(hb.cell h.lt).trans h.c0, (hb.cell h.lt).trans h.c1, (hb.frozen h.lt).trans h.z0, (hb.frozen h.lt).trans h.z1⟩
theorem Cdm.lt {w : World} {g : Nat} {m a b : Int} (h : Cdm w g m a b) : g < w.heap.size := World.block_lt_of_cell? w _ h.c0
theorem Cdm.at {w w' : World} {g B : Nat} {m a b : Int} (h : Cdm w g m a b) (hb : Below B w w') (hg : g < B) : Cdm w' g m a b :=
  ⟨(hb.cell hg).trans h.c0, (hb.cell hg).trans h.c1, (hb.cell hg).trans h.c2⟩
theorem Stm.at {w w' : World} {g B : Nat} {c l : Int} (h : Stm w g c l) (hb : Below B w w') (hg : g < B) : Stm w' g c l :=
  ⟨(hb.cell hg).trans h.c0, (hb.cell hg).trans h.c1, (hb.frozen hg).trans h.z0, (hb.frozen hg).trans h.z1⟩
theorem Cdm.new (w : World) (m a b : Int) (t : TypeId) : Cdm (w.alloc (.cells #[.int .i64 m, .int .i64 a, .int .i64 b] t)) w.heap.size m a b := ⟨by simp, by simp, by simp⟩
theorem Stm.new (w : World) (c l : Int) (t : TypeId) : Stm (w.alloc (.cells #[.int .i64 c, .int .i64 l] t)) w.heap.size c l := ⟨by simp, by simp, by simp, by simp⟩

set_option maxHeartbeats 4000000 in
theorem one_any {m a b : Int} (w : World) : Calls Try.prog 31 #[cdv m a b] w fun e w' => e = .returned (.bool (decide (Cd m a b))) ∧ Below w.heap.size w w' := by
  obtain ⟨d, hd⟩ : ∃ d, d = decide (Cd m a b) := ⟨_, rfl⟩
  rw [← hd]
  have HD : Hid (d = decide (Cd m a b)) := hd
  clear hd
  have C0 := Cdm.new w m a b 48
  have BL : Hid (Below w.heap.size w (w.alloc (.cells #[.int .i64 m, .int .i64 a, .int .i64 b] 48))) := below_one _ _
  by_cases h1 : 1 ≤ m
  · by_cases h2 : m ≤ 6
    · have i1 := mask_any (m := m) (a := a) (b := b) (x := a) ⟨h1, h2⟩
      by_cases h3 : Mk m a
      · rw [decide_eq_true h3] at i1
        have i2 := mask_any (m := m) (a := a) (b := b) (x := b) ⟨h1, h2⟩
        have H3 : Hid (Mk m a) := h3
        have CC : Hid (Cdm (w.alloc (.cells #[.int .i64 m, .int .i64 a, .int .i64 b] 48)) w.heap.size m a b) := C0
        obtain ⟨x, hx⟩ : ∃ x, x = decide (Mk m b) := ⟨_, rfl⟩
        rw [← hx] at i2
        have HX : Hid (x = decide (Mk m b)) := hx
        clear hx h3 C0
        go_enter Try.func31, Try.ntmps31
        go_wp2_with (first
          | (go_at_call 56; have Z := BL; (with_reducible refine (i1 _).mono ?_); rintro e w3 ⟨rfl, hb⟩; have BL3 : Hid (Below w.heap.size w w3) := bstep BL.out hb; have c0 := (CC.out.below hb).c0; have c1 := (CC.out.below hb).c1; have c2 := (CC.out.below hb).c2; clear hb BL CC)
          | (go_at_call 56; (with_reducible refine (i2 _).mono ?_); rintro e w4 ⟨rfl, hb⟩; have BL4 : Hid (Below w.heap.size w w4) := bstep BL3.out hb; clear hb))
        go_ret
        refine ⟨congrArg (fun z => Ending.returned (.bool z)) ?_, BL4.out⟩
        rw [HD.out, HX.out]
        refine decide_eq_decide.2 ⟨fun h => ⟨⟨h1, h2⟩, H3.out, h⟩, fun h => h.2.2⟩
      · rw [decide_eq_false h3] at i1
        have H3 : Hid (¬ Mk m a) := h3
        clear h3
        go_enter Try.func31, Try.ntmps31
        go_wp2_with (first
          | (go_at_call 56; (with_reducible refine (i1 _).mono ?_); rintro e w3 ⟨rfl, hb⟩; have BL3 : Hid (Below w.heap.size w w3) := bstep BL.out hb; clear hb))
        go_ret
        refine ⟨congrArg (fun z => Ending.returned (.bool z)) ?_, BL3.out⟩
        rw [HD.out]
        exact (decide_eq_false (fun h => H3.out h.2.1)).symm
    · have h3 : Hid (¬ m ≤ 6) := h2
      go_enter Try.func31, Try.ntmps31
      go_wp2
      go_ret
      refine ⟨congrArg (fun z => Ending.returned (.bool z)) ?_, BL.out⟩
      rw [HD.out]
      exact (decide_eq_false (fun h => (by have := h.1.2; have := h3.out; omega))).symm
  · have h3 : Hid (¬ 1 ≤ m) := h1
    go_enter Try.func31, Try.ntmps31
    go_wp2
    go_ret
    refine ⟨congrArg (fun z => Ending.returned (.bool z)) ?_, BL.out⟩
    rw [HD.out]
    exact (decide_eq_false (fun h => (by have := h.1.1; have := h3.out; omega))).symm

/-- A register: what came last, a bit behind it. -/
theorem reg_any {c l x : Int} (hl : 0 ≤ l ∧ l ≤ 64) (hx : 0 ≤ x ∧ x ≤ 1) (w : World) : Calls Try.prog 34 #[stv c l, .int .i64 x] w fun e w' => e = .returned (.int .i64 (2 * l + x)) ∧ Below w.heap.size w w' := by
  go_enter Try.func34, Try.ntmps34
  go_wp2
  go_ret
  exact ⟨rfl, below_one _ _⟩

set_option maxHeartbeats 2000000 in
theorem tells_any {m : Int} {a b r : Nat} (ha : a < 128) (hb : b < 128) (hr : r < 128) (w : World) : Calls Try.prog 33 #[cdv m a b, .int .i64 (r : Int)] w fun e w' => e = .returned (.tuple #[.int .i64 ((par (r &&& a) : Nat) : Int), .int .i64 ((par (r &&& b) : Nat) : Int)]) ∧ Below w.heap.size w w' := by
  have h1 := and_nat (a := r) (b := a) (by omega) (by omega)
  have h2 := and_nat (a := r) (b := b) (by omega) (by omega)
  have i1 := par_any (r &&& a) (Nat.lt_of_le_of_lt Nat.and_le_left (by omega))
  have i2 := par_any (r &&& b) (Nat.lt_of_le_of_lt Nat.and_le_left (by omega))
  generalize par (r &&& a) = p at *
  generalize par (r &&& b) = q at *
  generalize (r &&& a) = x at *
  generalize (r &&& b) = y at *
  go_enter Try.func33, Try.ntmps33
  go_wp2_with (go_quiet (first | (go_at_call 58; with_reducible exact Calls.quiet_of_same (i1 _)) | (go_at_call 58; with_reducible exact Calls.quiet_of_same (i2 _))))
  go_ret2
  exact ⟨rfl, below_drewN (below_one _ _) _⟩
end Go.Proofs.Ytgkcofjhajjjgaa
