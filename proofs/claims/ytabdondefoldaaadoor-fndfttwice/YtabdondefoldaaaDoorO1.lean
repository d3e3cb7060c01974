/- What the listed array gives the walks: its three cells, out of the condition; and a start that meets the condition. -/
import Derived.Test.YtabdondefoldaaaDoorP1
import Derived.ProofKit
import Derived.LaidMore
import Derived.OpenShut
import Derived.OpenVars
import Derived.Deep.Strs
import Derived.Stop.Joined
namespace Go.Proofs.YtabdondefoldaaaDoor
open Go.ChangeShapes Go.WideShapes Go.ChangeAt Go.WideMaps Go.WideElems Go.RowKit Go.Deep

theorem own : ownKnob Tryd.prog.godebug = none := by kernel_rfl
theorem laidOut : laidOutB Tryd.prog = true := by kernel_rfl
theorem gPrimes : Tryd.prog.globalNamed "loop.example/g00043/impl.primes" = some 0 := by kernel_rfl
theorem tPrimes : (Tryd.prog.globals[0]?).map (·.type) = some 68 := by kernel_rfl
theorem cells3 : Tryd.prog.cellsOf 3 = 1 := by kernel_rfl
theorem cells51 : Tryd.prog.cellsOf 68 = 3 := by kernel_rfl

theorem prs_of_laid {W : World} (h : laidMetH Tryd.prog [("loop.example/g00043/impl.primes", Rows.laid_loop_example_g00043_impl_primes)] W) : Prs W := by
  rw [MakeChecks.laidMetH_plain _ _ _ (by kernel_rfl)] at h
  obtain ⟨ps, ⟨g0, t0, cs0, f0, p0, q0, hg0, ht0, hv0, hd0, _, _⟩, _, _⟩ := h
  obtain rfl := Option.some.inj (gPrimes.symm.trans hg0)
  obtain rfl := Option.some.inj (tPrimes.symm.trans ht0)
  obtain ⟨xs, m1, rfl, hx1, hlen, hn, hel⟩ := DataW.trod_array Tryd.underlying68 hd0
  rw [cells51] at hlen
  simp only [Prod.mk.injEq] at hx1
  match xs, hn, hx1, hel with
  | [x0, x1, x2], _, hx1, hel =>
    have k0 := hel 0 (by decide)
    have k1 := hel 1 (by decide)
    have k2 := hel 2 (by decide)
    simp only [cells3] at k0 k1 k2
    simp [Rows.laid_loop_example_g00043_impl_primes] at hx1
    obtain ⟨⟨q0, q1, q2⟩, _⟩ := hx1
    obtain ⟨z0, e0, y0, _⟩ := DataW.trod_int Tryd.underlying3 k0
    obtain ⟨z1, e1, y1, _⟩ := DataW.trod_int Tryd.underlying3 k1
    obtain ⟨z2, e2, y2, _⟩ := DataW.trod_int Tryd.underlying3 k2
    have hc := World.var?_cell hg0 hv0
    obtain ⟨l⟩ := cs0
    simp only at hlen e0 e1 e2
    match l, hlen with
    | [v0, v1, v2], _ =>
      simp at e0 e1 e2 y0 y1 y2
      subst e0 e1 e2
      rw [y0] at q0
      rw [y1] at q1
      rw [y2] at q2
      simp at q0 q1 q2
      subst q0 q1 q2
      exact ⟨by simpa using hc 0, by simpa using hc 1, by simpa using hc 2⟩

/-- The door's own heap meets the condition. -/
theorem door_met (os : Os) (args : Array Value) : laidMetH Tryd.prog [("loop.example/g00043/impl.primes", Rows.laid_loop_example_g00043_impl_primes)] ((World.doorLaid Tryd.prog 400 os).forCall (fun _ _ => 0) ⟨#[], args, []⟩).memory :=
  laidMetH_of_parts3 (fuel := 8) (laidMet_of_run' 8 (by kernel_rfl) (by kernel_rfl)) (by kernel_rfl) (by kernel_rfl)
end Go.Proofs.YtabdondefoldaaaDoor
