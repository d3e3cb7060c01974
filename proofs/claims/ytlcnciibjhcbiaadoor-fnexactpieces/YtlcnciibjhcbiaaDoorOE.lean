/- New wheels. -/
import Derived.Test.YtlcnciibjhcbiaaDoorOD
namespace Go.Proofs.YtlcnciibjhcbiaaDoor
open Go.RowKit

set_option maxRecDepth 100000 in
set_option maxHeartbeats 1600000 in
theorem new_any (bk : Bool) (w : World) :
    Calls Tryd.prog 29 #[.bool bk] w fun e w' => e = .returned (.func (.func 44) #[] #[.pointer (some ⟨w.heap.size + 1, 0, none⟩), .pointer (some ⟨w.heap.size, 0, none⟩)]) ∧ Whl w' (w.heap.size + 1) bk ∧ w'.cell? ⟨w.heap.size, 0, none⟩ = some (.bool bk) ∧ w'.heap.size = w.heap.size + 2 ∧ Below w.heap.size w w' := by
  have hmf : ∀ (fn : Fn) (first cap : Array Value) (w : World), (Instr.makeFunc fn first cap).run Tryd.prog w = .ok (.func fn first cap) w := fun _ _ _ _ => rfl
  go_enter Tryd.func29, Tryd.ntmps29
  go_wp2
  go_ret
  refine ⟨rfl, ⟨by simp, fun j hj => ?_⟩, by simp, by simp, ((Below.refl _ _).alloc (Nat.le_refl _) _).alloc (by simp) _⟩
  have : j = 0 ∨ j = 1 ∨ j = 2 ∨ j = 3 ∨ j = 4 ∨ j = 5 ∨ j = 6 ∨ j = 7 := by omega
  rcases this with rfl | rfl | rfl | rfl | rfl | rfl | rfl | rfl <;> exact ⟨⟨by simp, by simp, by simp⟩, .inl ⟨by simp, by simp, .slice none 0 0, by simp⟩⟩
end Go.Proofs.YtlcnciibjhcbiaaDoor
