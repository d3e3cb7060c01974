/- What the listed table gives the walks: its twelve cells, out of the condition; and a start that meets the condition. -/
import Derived.Test.YtghblaphkbcgpaaDoorHS1
import Derived.ProofKit
import Derived.LaidMore
import Derived.OpenShut
import Derived.OpenVars
import Derived.Deep.Strs
import Derived.Stop.Joined
import Derived.Test.YtghblaphkbcgpaaDoorT4
import Derived.Lib.LaidTab
import Derived.Stop.LaidErr
namespace Go.Proofs.YtghblaphkbcgpaaDoor
open Go.ChangeShapes Go.WideShapes Go.ChangeAt Go.WideMaps Go.WideElems Go.RowKit Go.Deep

theorem own : ownKnob Tryd.prog.godebug = none := by kernel_rfl
theorem laidOut : laidOutB Tryd.prog = true := by kernel_rfl
theorem gShapes : Tryd.prog.globalNamed "loop.example/g00043/impl.shapes" = some 0 := by kernel_rfl
theorem tShapes : (Tryd.prog.globals[0]?).map (·.type) = some 59 := by kernel_rfl
theorem cells3 : Tryd.prog.cellsOf 3 = 1 := by kernel_rfl
theorem cells35 : Tryd.prog.cellsOf 58 = 3 := by kernel_rfl
theorem cells36 : Tryd.prog.cellsOf 59 = 12 := by kernel_rfl

/-- One row of the table, read: its three cells. -/
theorem row_cells {W : World} {m : Nat} {cs : List Value} {a b c : Int} {q : DataW Unit × List MemPlace} {enc : TypeId × Value → Unit} {base : Nat} {spare : Nat → Bool} {held : Bool}
    (h : DataW.trod enc Tryd.prog W base spare held m 58 cs = some q) (hq : q.1 = .agg [.lit (.int .i64 a), .lit (.int .i64 b), .lit (.int .i64 c)]) :
    cs = [.int .i64 a, .int .i64 b, .int .i64 c] := by
  obtain ⟨y0, y1, y2, n, rfl, hl, k0, k1, k2⟩ := trod_struct3 Tryd.underlying58 h
  rw [cells35] at hl
  simp only [cells3] at k0 k1 k2
  obtain ⟨z0, e0, rfl, _⟩ := DataW.trod_int Tryd.underlying3 k0
  obtain ⟨z1, e1, rfl, _⟩ := DataW.trod_int Tryd.underlying3 k1
  obtain ⟨z2, e2, rfl, _⟩ := DataW.trod_int Tryd.underlying3 k2
  simp at hq
  obtain ⟨rfl, rfl, rfl⟩ := hq
  match cs, hl with
  | [v0, v1, v2], _ =>
    simp at e0 e1 e2
    simp [e0, e1, e2]

set_option maxRecDepth 100000 in
theorem shp_of_laid {W : World} (h : laidMetH Tryd.prog [("loop.example/g00043/impl.shapes", Rows.laid_loop_example_g00043_impl_shapes)] W) : Shp W := by
  rw [MakeChecks.laidMetH_plain _ _ _ (by kernel_rfl)] at h
  obtain ⟨ps, ⟨g0, t0, cs0, f0, p0, q0, hg0, ht0, hv0, hd0, _, _⟩, _, _⟩ := h
  obtain rfl := Option.some.inj (gShapes.symm.trans hg0)
  obtain rfl := Option.some.inj (tShapes.symm.trans ht0)
  obtain ⟨xs, m1, rfl, hx1, hlen, hn, hel⟩ := DataW.trod_array Tryd.underlying59 hd0
  rw [cells36] at hlen
  simp only [Prod.mk.injEq] at hx1
  match xs, hn, hx1, hel with
  | [x0, x1, x2, x3], _, hx1, hel =>
    have k0 := hel 0 (by decide)
    have k1 := hel 1 (by decide)
    have k2 := hel 2 (by decide)
    have k3 := hel 3 (by decide)
    simp only [cells35] at k0 k1 k2 k3
    simp [Rows.laid_loop_example_g00043_impl_shapes] at hx1
    obtain ⟨⟨q0, q1, q2, q3⟩, _⟩ := hx1
    have r0 := row_cells (show DataW.trod _ Tryd.prog W 0 _ _ m1 58 _ = some x0 from k0) q0.symm
    have r1 := row_cells (show DataW.trod _ Tryd.prog W 0 _ _ m1 58 _ = some x1 from k1) q1.symm
    have r2 := row_cells (show DataW.trod _ Tryd.prog W 0 _ _ m1 58 _ = some x2 from k2) q2.symm
    have r3 := row_cells (show DataW.trod _ Tryd.prog W 0 _ _ m1 58 _ = some x3 from k3) q3.symm
    have hc := World.var?_cell hg0 hv0
    obtain ⟨l⟩ := cs0
    simp only at hlen r0 r1 r2 r3
    match l, hlen with
    | [v0, v1, v2, v3, v4, v5, v6, v7, v8, v9, v10, v11], _ =>
      simp at r0 r1 r2 r3
      obtain ⟨rfl, rfl, rfl⟩ := r0
      obtain ⟨rfl, rfl, rfl⟩ := r1
      obtain ⟨rfl, rfl, rfl⟩ := r2
      obtain ⟨rfl, rfl, rfl⟩ := r3
      exact ⟨by simpa using hc 0, by simpa using hc 1, by simpa using hc 2, by simpa using hc 3, by simpa using hc 4, by simpa using hc 5, by simpa using hc 6, by simpa using hc 7, by simpa using hc 8, by simpa using hc 9, by simpa using hc 10, by simpa using hc 11⟩

/-- The door's own heap meets the condition. -/
theorem door_met (os : Os) (args : Array Value) : laidMetH Tryd.prog [("loop.example/g00043/impl.shapes", Rows.laid_loop_example_g00043_impl_shapes)] ((World.doorLaid Tryd.prog 400 os).forCall (fun _ _ => 0) ⟨#[], args, []⟩).memory :=
  laidMetH_of_parts3 (fuel := 8) (laidMet_of_run' 8 (by kernel_rfl) (by kernel_rfl)) (by kernel_rfl) (by kernel_rfl)
end Go.Proofs.YtghblaphkbcgpaaDoor

/- What the two listed tables give the walks, out of the condition; and a start that meets the condition. -/
namespace Go.Proofs.YtghblaphkbcgpaaDoor
open Go.ChangeShapes Go.WideShapes Go.ChangeAt Go.WideMaps Go.WideElems Go.RowKit Go.Deep

theorem gBrj : Tryd.prog.globalNamed "math/bits.deBruijn64tab" = some 1 := by kernel_rfl
theorem tBrj : (Tryd.prog.globals[1]?).map (·.type) = some 78 := by kernel_rfl
theorem cells5 : Tryd.prog.cellsOf 5 = 1 := by kernel_rfl
theorem cells47 : Tryd.prog.cellsOf 78 = 64 := by kernel_rfl

set_option maxRecDepth 100000 in
theorem brj_data : (Rows.laid_math_bits_deBruijn64tab : DataW Unit) = Lib.tabData .u8 (Lib.deBruijn64tab.map fun n => ((n : Nat) : Int)) := rfl

set_option maxRecDepth 100000 in
theorem tabs_of_laid {W : World} (h : laidMetH Tryd.prog [("math/bits.deBruijn64tab", Rows.laid_math_bits_deBruijn64tab), ("loop.example/g00043/impl.shapes", Rows.laid_loop_example_g00043_impl_shapes)] W) : Tabs W := by
  rw [MakeChecks.laidMetH_plain _ _ _ (by kernel_rfl)] at h
  have ht : laidMetH Tryd.prog [("loop.example/g00043/impl.shapes", Rows.laid_loop_example_g00043_impl_shapes)] W := by
    rw [MakeChecks.laidMetH_plain _ _ _ (by kernel_rfl)]
    exact laidMet.tail h
  rw [brj_data] at h
  have hT := Lib.tabIs_of_head gBrj tBrj Tryd.underlying78 Tryd.underlying5 cells5 cells47 h
  have hc : ∀ i, i < 64 → W.cell? ⟨1, i, none⟩ = some (.int .u8 ((Lib.deBruijn64tab.getD i 0 : Nat) : Int)) := by
    intro i hi
    have := hT.cell gBrj i (by simpa [Lib.deBruijn64tab] using hi)
    rw [this]
    simp only [List.getD_eq_getElem?_getD, List.getElem?_map]
    rw [List.getElem?_eq_getElem (show i < Lib.deBruijn64tab.length by simpa [Lib.deBruijn64tab] using hi)]
    rfl
  refine ⟨shp_of_laid ht, ⟨?_, hc⟩⟩
  have := hc 0 (by decide)
  by_cases h1 : 1 < W.heap.size
  · exact h1
  · exfalso
    have e : W.heap[1]? = none := by simp; omega
    simp [World.cell?, e] at this

/-- The door's own heap meets the condition. -/
theorem door_met2 (os : Os) (args : Array Value) : laidMetH Tryd.prog [("math/bits.deBruijn64tab", Rows.laid_math_bits_deBruijn64tab), ("loop.example/g00043/impl.shapes", Rows.laid_loop_example_g00043_impl_shapes)] ((World.doorLaid Tryd.prog 400 os).forCall (fun _ _ => 0) ⟨#[], args, []⟩).memory :=
  laidMetH_of_parts3 (fuel := 8) (laidMet_of_run' 8 (by kernel_rfl) (by kernel_rfl)) (by kernel_rfl) (by kernel_rfl)
end Go.Proofs.YtghblaphkbcgpaaDoor
