/- What the listed tables give the walks, out of the condition; and a start that meets the condition. -/
import Derived.Test.YtddbekacdfohpaaGreatDoorM04
import Derived.Test.YtddbekacdfohpaaGreatDoorRows
import Derived.ProofKit
import Derived.LaidMore
import Derived.OpenShut
import Derived.OpenVars
import Derived.Deep.Strs
import Derived.Stop.Joined
import Derived.Lib.LaidTab
import Derived.Stop.LaidErr
namespace Go.Proofs.YtddbekacdfohpaaGreatDoor
open Go.ChangeShapes Go.WideShapes Go.ChangeAt Go.WideMaps Go.WideElems Go.RowKit Go.Deep

theorem gBrj : Tryz.prog.globalNamed "math/bits.deBruijn64tab" = some 1 := by kernel_rfl
theorem tBrj : (Tryz.prog.globals[1]?).map (·.type) = some 119 := by kernel_rfl
theorem cellsB : Tryz.prog.cellsOf 5 = 1 := by kernel_rfl
theorem cellsT : Tryz.prog.cellsOf 119 = 64 := by kernel_rfl

set_option maxRecDepth 100000 in
theorem brj_data : (Rows.laid_math_bits_deBruijn64tab : DataW Unit) = Lib.tabData .u8 (Lib.deBruijn64tab.map fun n => ((n : Nat) : Int)) := rfl

set_option maxRecDepth 100000 in
theorem brj_of_laid {W : World} (h : laidMetH Tryz.prog [("math/bits.deBruijn32tab", Rows.laid_math_bits_deBruijn32tab), ("math/bits.deBruijn64tab", Rows.laid_math_bits_deBruijn64tab)] W) : Brj W := by
  rw [MakeChecks.laidMetH_plain _ _ _ (by kernel_rfl)] at h
  have h := laidMet.tail h
  rw [brj_data] at h
  have hT := Lib.tabIs_of_head gBrj tBrj Tryz.underlying119 Tryz.underlying5 cellsB cellsT h
  have hc : ∀ i, i < 64 → W.cell? ⟨1, i, none⟩ = some (.int .u8 ((Lib.deBruijn64tab.getD i 0 : Nat) : Int)) := by
    intro i hi
    have := hT.cell gBrj i (by simpa [Lib.deBruijn64tab] using hi)
    rw [this]
    simp only [List.getD_eq_getElem?_getD, List.getElem?_map]
    rw [List.getElem?_eq_getElem (show i < Lib.deBruijn64tab.length by simpa [Lib.deBruijn64tab] using hi)]
    rfl
  refine ⟨?_, hc⟩
  have := hc 0 (by decide)
  by_cases h1 : 1 < W.heap.size
  · exact h1
  · exfalso
    have e : W.heap[1]? = none := by simp; omega
    simp [World.cell?, e] at this

/-- The door's own heap meets the condition. -/
theorem door_met2 (os : Os) (args : Array Value) : laidMetH Tryz.prog [("math/bits.deBruijn32tab", Rows.laid_math_bits_deBruijn32tab), ("math/bits.deBruijn64tab", Rows.laid_math_bits_deBruijn64tab)] ((World.doorLaid Tryz.prog 400 os).forCall (fun _ _ => 0) ⟨#[], args, []⟩).memory :=
  laidMetH_of_parts3 (fuel := 8) (laidMet_of_run' 8 (by kernel_rfl) (by kernel_rfl)) (by kernel_rfl) (by kernel_rfl)
end Go.Proofs.YtddbekacdfohpaaGreatDoor
