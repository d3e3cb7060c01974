/- What the listed variables give the walk. -/
import Derived.Test.YtiadfabhpagmpaaDoorPB
import Derived.ProofKit
import Derived.LaidMore
import Derived.OpenShut
import Derived.OpenVars
import Derived.Deep.Strs
import Derived.Stop.Joined
import Derived.Lib.SmallJoins
import Derived.Deep.SlicePairs
namespace Go.Proofs.YtiadfabhpagmpaaDoor
open Go.RowKit

open Go.ChangeShapes Go.WideShapes Go.ChangeAt Go.WideMaps Go.WideElems Go.Deep Go.Joins


theorem own : ownKnob Tryd.prog.godebug = none := by kernel_rfl
theorem laidOut : laidOutB Tryd.prog = true := by kernel_rfl
theorem cellsK : Tryd.prog.cellsOf 85 = 4 := by kernel_rfl
theorem cellsKA : Tryd.prog.cellsOf 86 = 36 := by kernel_rfl
theorem cells3 : Tryd.prog.cellsOf 3 = 1 := by kernel_rfl
theorem cells9 : Tryd.prog.cellsOf 9 = 1 := by kernel_rfl

/-- A kind out of what a struct reads as. -/
theorem kind_of {H : Type} {enc : TypeId × Value → H} {W : World} {base : Nat} {sp : Nat → Bool} {held : Bool} {fuel : Nat} {cs : List Value} {s : List UInt8} {a b c : Int} {p : List MemPlace}
    (hl : cs.length = 4) (h : DataW.trod enc Tryd.prog W base sp held fuel 85 cs = some (.agg [.lit (.string s), .lit (.int .i64 a), .lit (.int .i64 b), .lit (.int .i64 c)], p)) : ∃ s', cs = [.string s', .int .i64 a, .int .i64 b, .int .i64 c] := by
  obtain ⟨xs, k, hk, hxy, _, hxl, hfd⟩ := DataW.trod_struct Tryd.underlying85 h
  match xs, hxl, cs, hl with
  | [y0, y1, y2, y3], _, [v0, v1, v2, v3], _ =>
    have g0 := hfd 0 _ rfl
    have g1 := hfd 1 _ rfl
    have g2 := hfd 2 _ rfl
    have g3 := hfd 3 _ rfl
    simp [cells3, cells9] at g0 g1 g2 g3
    simp at hxy
    obtain ⟨⟨q0, q1, q2, q3⟩, _⟩ := hxy
    obtain ⟨s', e0, _⟩ := DataW.trod_string Tryd.underlying9 g0
    obtain ⟨z1, e1, y1', _⟩ := DataW.trod_int Tryd.underlying3 g1
    obtain ⟨z2, e2, y2', _⟩ := DataW.trod_int Tryd.underlying3 g2
    obtain ⟨z3, e3, y3', _⟩ := DataW.trod_int Tryd.underlying3 g3
    simp at e0 e1 e2 e3
    rw [y1'] at q1
    rw [y2'] at q2
    rw [y3'] at q3
    simp at q1 q2 q3
    subst e0 e1 e2 e3 q1 q2 q3
    exact ⟨s', rfl⟩

/-- An interface out of what a sentinel reads as. -/
theorem iface_of {H : Type} {enc : TypeId × Value → H} {W : World} {base : Nat} {sp : Nat → Bool} {held : Bool} {fuel : Nat} {cs : List Value} {nm : String} {d : DataW H} {p : List MemPlace}
    (h : DataW.trod enc Tryd.prog W base sp held fuel 58 cs = some (.iface nm d, p)) : ∃ u x, cs = [.iface u x] := by
  cases fuel with
  | zero => simp [DataW.trod] at h
  | succ k =>
    simp only [DataW.trod, Tryd.underlying58] at h
    split at h
    all_goals first
      | exact ⟨_, _, rfl⟩
      | simp_all

theorem gN0 : Tryd.prog.globalNamed "loop.example/g00043/impl.nodeKinds" = some 4 := by kernel_rfl
theorem gN1 : Tryd.prog.globalNamed "loop.example/g00043/impl.errNoLine" = some 0 := by kernel_rfl
theorem gN2 : Tryd.prog.globalNamed "loop.example/g00043/impl.errNameTwice" = some 2 := by kernel_rfl
theorem gN3 : Tryd.prog.globalNamed "loop.example/g00043/impl.errNoNode" = some 3 := by kernel_rfl
theorem gN4 : Tryd.prog.globalNamed "loop.example/g00043/impl.errTooMany" = some 1 := by kernel_rfl
theorem tG0 : (Tryd.prog.globals[0]?).map (·.type) = some 58 := by kernel_rfl
theorem tG1 : (Tryd.prog.globals[1]?).map (·.type) = some 58 := by kernel_rfl
theorem tG2 : (Tryd.prog.globals[2]?).map (·.type) = some 58 := by kernel_rfl
theorem tG3 : (Tryd.prog.globals[3]?).map (·.type) = some 58 := by kernel_rfl
theorem tG4 : (Tryd.prog.globals[4]?).map (·.type) = some 86 := by kernel_rfl

set_option maxRecDepth 100000 in
theorem kds_of_laid {W : World} (h : laidMetH Tryd.prog [("loop.example/g00043/impl.nodeKinds", Rows.laid_loop_example_g00043_impl_nodeKinds), ("loop.example/g00043/impl.errNoLine", Rows.laid_loop_example_g00043_impl_errNoLine), ("loop.example/g00043/impl.errNameTwice", Rows.laid_loop_example_g00043_impl_errNameTwice), ("loop.example/g00043/impl.errNoNode", Rows.laid_loop_example_g00043_impl_errNoNode), ("loop.example/g00043/impl.errTooMany", Rows.laid_loop_example_g00043_impl_errTooMany)] W) : Kds W := by
  rw [MakeChecks.laidMetH_plain _ _ _ (by kernel_rfl)] at h
  obtain ⟨ps, h, _, _⟩ := h
  obtain ⟨g0, t0, cs0, f0, p0, q0, hg0, ht0, hv0, hd0, h, _⟩ := h
  obtain ⟨g1, t1, cs1, f1, p1, q1, hg1, ht1, hv1, hd1, h, _⟩ := h
  obtain ⟨g2, t2, cs2, f2, p2, q2, hg2, ht2, hv2, hd2, h, _⟩ := h
  obtain ⟨g3, t3, cs3, f3, p3, q3, hg3, ht3, hv3, hd3, h, _⟩ := h
  obtain ⟨g4, t4, cs4, f4, p4, q4, hg4, ht4, hv4, hd4, h, _⟩ := h
  obtain rfl := Option.some.inj (gN0.symm.trans hg0)
  obtain rfl := Option.some.inj (gN1.symm.trans hg1)
  obtain rfl := Option.some.inj (gN2.symm.trans hg2)
  obtain rfl := Option.some.inj (gN3.symm.trans hg3)
  obtain rfl := Option.some.inj (gN4.symm.trans hg4)
  obtain rfl := Option.some.inj (tG4.symm.trans ht0)
  obtain rfl := Option.some.inj (tG0.symm.trans ht1)
  obtain rfl := Option.some.inj (tG2.symm.trans ht2)
  obtain rfl := Option.some.inj (tG3.symm.trans ht3)
  obtain rfl := Option.some.inj (tG1.symm.trans ht4)
  have k0 := World.var?_cell hg0 hv0
  have k1 := World.var?_cell hg1 hv1
  have k2 := World.var?_cell hg2 hv2
  have k3 := World.var?_cell hg3 hv3
  have k4 := World.var?_cell hg4 hv4
  refine ⟨fun q hq => ?_, fun i hi => ?_⟩
  · obtain ⟨xs, m1, hx1, hx2, hlen, hn, hel⟩ := DataW.trod_array Tryd.underlying86 hd0
    obtain ⟨L, hL, hLq⟩ : ∃ L : List (DataW Unit), Rows.laid_loop_example_g00043_impl_nodeKinds = .agg L ∧ ∀ q, q < 9 → ∃ s, L[q]? = some (.agg [.lit (.string s), .lit (.int .i64 (dors q)), .lit (.int .i64 (klo q)), .lit (.int .i64 (khi q))]) := by
      refine ⟨_, rfl, fun q hq => ?_⟩
      match q, hq with
      | 0, _ => exact ⟨_, rfl⟩
      | 1, _ => exact ⟨_, rfl⟩
      | 2, _ => exact ⟨_, rfl⟩
      | 3, _ => exact ⟨_, rfl⟩
      | 4, _ => exact ⟨_, rfl⟩
      | 5, _ => exact ⟨_, rfl⟩
      | 6, _ => exact ⟨_, rfl⟩
      | 7, _ => exact ⟨_, rfl⟩
      | 8, _ => exact ⟨_, rfl⟩
    rw [hL] at hx2
    simp only [Prod.mk.injEq, DataW.agg.injEq] at hx2
    obtain ⟨hx2, _⟩ := hx2
    obtain ⟨s, hs⟩ := hLq q hq
    have hE := hel q hq
    rw [cellsK] at hE
    rw [cellsKA] at hlen
    rw [hx2, List.getElem?_map] at hs
    obtain ⟨y, hy, hys⟩ := Option.map_eq_some_iff.1 hs
    rw [hy] at hE
    obtain ⟨y1, y2⟩ := y
    simp only at hys
    subst hys
    obtain ⟨s', hcs⟩ := kind_of (by rw [List.length_take, List.length_drop, hlen]; omega) hE
    have at_ : ∀ j, j < 4 → W.cell? ⟨4, q * 4 + j, none⟩ = [Value.string s', .int .i64 (dors q), .int .i64 (klo q), .int .i64 (khi q)][j]? := fun j hj => by
      rw [k0, ← hcs, List.getElem?_take_of_lt hj, List.getElem?_drop, Array.getElem?_toList]
    exact ⟨s', at_ 0 (by omega), at_ 1 (by omega), at_ 2 (by omega), at_ 3 (by omega)⟩
  · obtain ⟨u1, x1, e1⟩ := iface_of hd1
    obtain ⟨u2, x2, e2⟩ := iface_of hd2
    obtain ⟨u3, x3, e3⟩ := iface_of hd3
    obtain ⟨u4, x4, e4⟩ := iface_of hd4
    have hi4 : i = 0 ∨ i = 1 ∨ i = 2 ∨ i = 3 := by omega
    rcases hi4 with rfl | rfl | rfl | rfl
    · exact ⟨u1, x1, by rw [k1, ← Array.getElem?_toList, e1]; rfl⟩
    · exact ⟨u4, x4, by rw [k4, ← Array.getElem?_toList, e4]; rfl⟩
    · exact ⟨u2, x2, by rw [k2, ← Array.getElem?_toList, e2]; rfl⟩
    · exact ⟨u3, x3, by rw [k3, ← Array.getElem?_toList, e3]; rfl⟩

/-- The door's own heap meets the condition. -/
theorem door_met (os : Os) (args : Array Value) : laidMetH Tryd.prog [("loop.example/g00043/impl.nodeKinds", Rows.laid_loop_example_g00043_impl_nodeKinds), ("loop.example/g00043/impl.errNoLine", Rows.laid_loop_example_g00043_impl_errNoLine), ("loop.example/g00043/impl.errNameTwice", Rows.laid_loop_example_g00043_impl_errNameTwice), ("loop.example/g00043/impl.errNoNode", Rows.laid_loop_example_g00043_impl_errNoNode), ("loop.example/g00043/impl.errTooMany", Rows.laid_loop_example_g00043_impl_errTooMany)] ((World.doorLaid Tryd.prog 400 os).forCall (fun _ _ => 0) ⟨#[], args, []⟩).memory :=
  laidMetH_of_parts3 (fuel := 8) (laidMet_of_run' 8 (by kernel_rfl) (by kernel_rfl)) (by kernel_rfl) (by kernel_rfl)

end Go.Proofs.YtiadfabhpagmpaaDoor
