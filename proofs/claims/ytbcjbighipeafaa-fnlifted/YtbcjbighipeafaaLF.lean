/- Lifting: the program's pairs of closures. -/
import Derived.Test.YtbcjbighipeafaaLE
namespace Go.Proofs.Ytbcjbighipeafaa
open Go.RowKit

theorem rStoreF (a : Addr) (f : Fn) (x y : Array Value) (m : Mode) (w : World) : (store a (.func f x y) m).run Try.prog w = stored Try.prog w a (.func f x y) m := run_store Try.prog w a _ m rfl

/-- A struct of two in a block of its own. -/
structure Rg (W : World) (g : Nat) (x y : Value) : Prop where
  c0 : W.cell? ⟨g, 0, none⟩ = some x
  c1 : W.cell? ⟨g, 1, none⟩ = some y
  z0 : W.frozen? ⟨g, 0, none⟩ = false
  z1 : W.frozen? ⟨g, 1, none⟩ = false

theorem Rg.lt {W : World} {g : Nat} {x y : Value} (h : Rg W g x y) : g < W.heap.size := World.block_lt_of_cell? W _ h.c0

theorem Rg.call {W W' : World} {g : Nat} {x y : Value} (h : Rg W g x y) (hb : Below W.heap.size W W') : Rg W' g x y :=
  ⟨(hb.cell h.lt).trans h.c0, (hb.cell h.lt).trans h.c1, (hb.frozen h.lt).trans h.z0, (hb.frozen h.lt).trans h.z1⟩

theorem Rg.new (w : World) (x y : Value) (t : TypeId) : Rg (w.alloc (.cells #[x, y] t)) w.heap.size x y := ⟨by simp, by simp, by simp, by simp⟩

theorem Rg.put {W : World} {g : Nat} {x y : Value} (h : Rg W g x y) (x' y' : Value) : Rg ((W.setCell ⟨g, 0, none⟩ x').setCell ⟨g, 1, none⟩ y') g x' y' := by
  obtain ⟨c0, c1, z0, z1⟩ := h
  exact ⟨by simp [go_sem, c0], by simp [go_sem, c1], by simp [go_sem, z0], by simp [go_sem, z1]⟩

theorem Rg.only {W W' : World} {g k : Nat} {x y : Value} (h : Rg W g x y) (ho : Only k W W') (hk : g ≠ k) : Rg W' g x y := by
  have e : W'.heap[g]? = W.heap[g]? := ho.block g hk
  exact ⟨(World.cell?_of_block (w := W) e).trans h.c0, (World.cell?_of_block (w := W) e).trans h.c1, (World.frozen?_of_block (w := W) e).trans h.z0, (World.frozen?_of_block (w := W) e).trans h.z1⟩

set_option maxHeartbeats 1000000 in
theorem mend43 {w : World} {ho : Option Addr} {m d : Nat} : Calls Try.prog 48 #[.slice ho m d] w fun e w' => ∃ gh, e = .returned (.func (.func 55) #[] #[.pointer (some ⟨gh, 0, none⟩)]) ∧ w.heap.size ≤ gh ∧ w'.cell? ⟨gh, 0, none⟩ = some (.slice ho m d) ∧ Below w.heap.size w w' := by
  go_enter Try.func48, Try.ntmps48
  go_wp2
  go_ret
  exact ⟨_, rfl, Nat.le_refl _, by simp, below_one _ _⟩

set_option maxHeartbeats 1000000 in
theorem mend46 {w : World} {ho : Option Addr} {m d : Nat} : Calls Try.prog 51 #[.slice ho m d] w fun e w' => ∃ gh, e = .returned (.func (.func 56) #[] #[.pointer (some ⟨gh, 0, none⟩)]) ∧ w.heap.size ≤ gh ∧ w'.cell? ⟨gh, 0, none⟩ = some (.slice ho m d) ∧ Below w.heap.size w w' := by
  go_enter Try.func51, Try.ntmps51
  go_wp2
  go_ret
  exact ⟨_, rfl, Nat.le_refl _, by simp, below_one _ _⟩

/-- The two closures. -/
abbrev Lv (fg fm ge gh : Nat) : Value := .agg #[.func (.func fg) #[] #[.pointer (some ⟨ge, 0, none⟩)], .func (.func fm) #[] #[.pointer (some ⟨gh, 0, none⟩)]]

set_option maxHeartbeats 2000000 in
theorem of_1 {w : World} {eo ho : Option Addr} {n c m d : Nat} : Calls Try.prog 41 #[.int .i64 1, .slice eo n c, .slice ho m d] w fun e w' => ∃ ge gh, e = .returned (Lv 47 55 ge gh) ∧ w.heap.size ≤ ge ∧ w.heap.size ≤ gh ∧ w'.cell? ⟨ge, 0, none⟩ = some (.slice eo n c) ∧ w'.cell? ⟨gh, 0, none⟩ = some (.slice ho m d) ∧ Below w.heap.size w w' := by
  go_enter Try.func41, Try.ntmps41
  have b1 := below_one w (.cells #[.slice eo n c] 24)
  have b2 := bstep b1 (below_one _ (.cells #[.nilFunc, .nilFunc] 57))
  have r2 := Rg.new (w.alloc (.cells #[.slice eo n c] 24)) .nilFunc .nilFunc 57
  have c1 : ((w.alloc (.cells #[.slice eo n c] 24)).alloc (.cells #[.nilFunc, .nilFunc] 57)).cell? ⟨w.heap.size, 0, none⟩ = some (.slice eo n c) := by simp
  have hsz : (w.alloc (.cells #[.slice eo n c] 24)).heap.size = w.heap.size + 1 := by simp
  have hsz2 : ((w.alloc (.cells #[.slice eo n c] 24)).alloc (.cells #[.nilFunc, .nilFunc] 57)).heap.size = w.heap.size + 2 := by simp
  rw [hsz] at r2
  have hST := rStoreF
  go_wp2_with (go_at_call 48; (with_reducible refine mend43.mono ?_); rintro e w1 ⟨gh, rfl, h1, h2, h3⟩; obtain ⟨f0, f1, f2, f3⟩ := r2.call h3)
  rw [hsz2] at h1
  have b3 : Below w.heap.size w w1 := bstep b2 h3
  have c2 : w1.cell? ⟨w.heap.size, 0, none⟩ = some (.slice eo n c) := (h3.cell (p := ⟨w.heap.size, 0, none⟩) (World.block_lt_of_cell? _ _ c1)).trans c1
  have on : Only (w.heap.size + 1) w1 ((w1.setCell ⟨w.heap.size + 1, 0, none⟩ (.func (.func 47) #[] #[.pointer (some ⟨w.heap.size, 0, none⟩)])).setCell ⟨w.heap.size + 1, 1, none⟩ (.func (.func 55) #[] #[.pointer (some ⟨gh, 0, none⟩)])) := ((Only.refl _ _).put 0 _).put 1 _
  have rr := Rg.put ⟨f0, f1, f2, f3⟩ (.func (.func 47) #[] #[.pointer (some ⟨w.heap.size, 0, none⟩)]) (.func (.func 55) #[] #[.pointer (some ⟨gh, 0, none⟩)])
  have d0 := rr.c0
  have d1 := rr.c1
  refine bodyPost_ret (v := Lv 47 55 w.heap.size gh) (by simp [results, Try.results41, go_sem, d0, d1]) rfl ?_
  exact ⟨_, _, rfl, Nat.le_refl _, by omega, (World.cell?_of_block (w := w1) (on.block w.heap.size (by omega))).trans c2, (World.cell?_of_block (w := w1) (on.block gh (by omega))).trans h2, Below.only b3 on (by omega)⟩

set_option maxHeartbeats 2000000 in
theorem of_2 {w : World} {eo ho : Option Addr} {n c m d : Nat} : Calls Try.prog 41 #[.int .i64 2, .slice eo n c, .slice ho m d] w fun e w' => ∃ ge gh, e = .returned (Lv 49 56 ge gh) ∧ w.heap.size ≤ ge ∧ w.heap.size ≤ gh ∧ w'.cell? ⟨ge, 0, none⟩ = some (.slice eo n c) ∧ w'.cell? ⟨gh, 0, none⟩ = some (.slice ho m d) ∧ Below w.heap.size w w' := by
  go_enter Try.func41, Try.ntmps41
  have b1 := below_one w (.cells #[.slice eo n c] 24)
  have b2 := bstep b1 (below_one _ (.cells #[.nilFunc, .nilFunc] 57))
  have r2 := Rg.new (w.alloc (.cells #[.slice eo n c] 24)) .nilFunc .nilFunc 57
  have c1 : ((w.alloc (.cells #[.slice eo n c] 24)).alloc (.cells #[.nilFunc, .nilFunc] 57)).cell? ⟨w.heap.size, 0, none⟩ = some (.slice eo n c) := by simp
  have hsz : (w.alloc (.cells #[.slice eo n c] 24)).heap.size = w.heap.size + 1 := by simp
  have hsz2 : ((w.alloc (.cells #[.slice eo n c] 24)).alloc (.cells #[.nilFunc, .nilFunc] 57)).heap.size = w.heap.size + 2 := by simp
  rw [hsz] at r2
  have hST := rStoreF
  go_wp2_with (go_at_call 51; (with_reducible refine mend46.mono ?_); rintro e w1 ⟨gh, rfl, h1, h2, h3⟩; obtain ⟨f0, f1, f2, f3⟩ := r2.call h3)
  rw [hsz2] at h1
  have b3 : Below w.heap.size w w1 := bstep b2 h3
  have c2 : w1.cell? ⟨w.heap.size, 0, none⟩ = some (.slice eo n c) := (h3.cell (p := ⟨w.heap.size, 0, none⟩) (World.block_lt_of_cell? _ _ c1)).trans c1
  have on : Only (w.heap.size + 1) w1 ((w1.setCell ⟨w.heap.size + 1, 0, none⟩ (.func (.func 49) #[] #[.pointer (some ⟨w.heap.size, 0, none⟩)])).setCell ⟨w.heap.size + 1, 1, none⟩ (.func (.func 56) #[] #[.pointer (some ⟨gh, 0, none⟩)])) := ((Only.refl _ _).put 0 _).put 1 _
  have rr := Rg.put ⟨f0, f1, f2, f3⟩ (.func (.func 49) #[] #[.pointer (some ⟨w.heap.size, 0, none⟩)]) (.func (.func 56) #[] #[.pointer (some ⟨gh, 0, none⟩)])
  have d0 := rr.c0
  have d1 := rr.c1
  refine bodyPost_ret (v := Lv 49 56 w.heap.size gh) (by simp [results, Try.results41, go_sem, d0, d1]) rfl ?_
  exact ⟨_, _, rfl, Nat.le_refl _, by omega, (World.cell?_of_block (w := w1) (on.block w.heap.size (by omega))).trans c2, (World.cell?_of_block (w := w1) (on.block gh (by omega))).trans h2, Below.only b3 on (by omega)⟩

set_option maxHeartbeats 2000000 in
theorem of_3 {w : World} {eo ho : Option Addr} {n c m d : Nat} : Calls Try.prog 41 #[.int .i64 3, .slice eo n c, .slice ho m d] w fun e w' => ∃ ge gh, e = .returned (Lv 52 56 ge gh) ∧ w.heap.size ≤ ge ∧ w.heap.size ≤ gh ∧ w'.cell? ⟨ge, 0, none⟩ = some (.slice eo n c) ∧ w'.cell? ⟨gh, 0, none⟩ = some (.slice ho m d) ∧ Below w.heap.size w w' := by
  go_enter Try.func41, Try.ntmps41
  have b1 := below_one w (.cells #[.slice eo n c] 24)
  have b2 := bstep b1 (below_one _ (.cells #[.nilFunc, .nilFunc] 57))
  have r2 := Rg.new (w.alloc (.cells #[.slice eo n c] 24)) .nilFunc .nilFunc 57
  have c1 : ((w.alloc (.cells #[.slice eo n c] 24)).alloc (.cells #[.nilFunc, .nilFunc] 57)).cell? ⟨w.heap.size, 0, none⟩ = some (.slice eo n c) := by simp
  have hsz : (w.alloc (.cells #[.slice eo n c] 24)).heap.size = w.heap.size + 1 := by simp
  have hsz2 : ((w.alloc (.cells #[.slice eo n c] 24)).alloc (.cells #[.nilFunc, .nilFunc] 57)).heap.size = w.heap.size + 2 := by simp
  rw [hsz] at r2
  have hST := rStoreF
  go_wp2_with (go_at_call 51; (with_reducible refine mend46.mono ?_); rintro e w1 ⟨gh, rfl, h1, h2, h3⟩; obtain ⟨f0, f1, f2, f3⟩ := r2.call h3)
  rw [hsz2] at h1
  have b3 : Below w.heap.size w w1 := bstep b2 h3
  have c2 : w1.cell? ⟨w.heap.size, 0, none⟩ = some (.slice eo n c) := (h3.cell (p := ⟨w.heap.size, 0, none⟩) (World.block_lt_of_cell? _ _ c1)).trans c1
  have on : Only (w.heap.size + 1) w1 ((w1.setCell ⟨w.heap.size + 1, 0, none⟩ (.func (.func 52) #[] #[.pointer (some ⟨w.heap.size, 0, none⟩)])).setCell ⟨w.heap.size + 1, 1, none⟩ (.func (.func 56) #[] #[.pointer (some ⟨gh, 0, none⟩)])) := ((Only.refl _ _).put 0 _).put 1 _
  have rr := Rg.put ⟨f0, f1, f2, f3⟩ (.func (.func 52) #[] #[.pointer (some ⟨w.heap.size, 0, none⟩)]) (.func (.func 56) #[] #[.pointer (some ⟨gh, 0, none⟩)])
  have d0 := rr.c0
  have d1 := rr.c1
  refine bodyPost_ret (v := Lv 52 56 w.heap.size gh) (by simp [results, Try.results41, go_sem, d0, d1]) rfl ?_
  exact ⟨_, _, rfl, Nat.le_refl _, by omega, (World.cell?_of_block (w := w1) (on.block w.heap.size (by omega))).trans c2, (World.cell?_of_block (w := w1) (on.block gh (by omega))).trans h2, Below.only b3 on (by omega)⟩

end Go.Proofs.Ytbcjbighipeafaa
