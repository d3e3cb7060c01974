/- UnRice: the law. -/
import Derived.Test.YtndagpompioooabDoorUM
import Derived.Test.YtndagpompioooabDoorMK
namespace Go.Proofs.YtndagpompioooabDoor
open Go.RowKit

theorem own_only2 {w w' w3 : World} {B3 s s2 n m g : Nat} {e e2 : TypeId} {v x : Value} {xs L : List Value} (h : w.ownsRow w3.heap.size e s v n xs) (ho : Only g w w') (hor : x.ownBlock = some g ∨ w' = w) (hx : w3.ownsRow B3 e2 s2 x m L) : w'.ownsRow w3.heap.size e s v n xs := by
  rcases hor with hg | rfl
  · exact own_only h ho (World.ownsRow.lt hx g hg).2
  · exact h

set_option maxHeartbeats 2000000 in
theorem sUnr_bad {w : World} {v : Value} {n : Nat} {b : Nat → Int} (hv : Il w v n b) {k m : Int} (h : ¬ ((0 ≤ k ∧ k ≤ 30) ∧ 0 ≤ m ∧ m ≤ 128)) (ys : Nat → Int) :
    Calls Tryd.prog 21 #[.int .i64 k, v, .int .i64 m] w fun e w' => Pur w w' e 0 ys 0 false := by
  have i1 := in_any k 0 30
  have i2 := in_any m 0 128
  obtain ⟨ao, cap, rfl, hcap, hc⟩ := hv
  clear hc
  by_cases c1 : 0 ≤ k ∧ k ≤ 30
  · rw [decide_eq_true c1] at i1
    rw [decide_eq_false (fun c2 => h ⟨c1, c2⟩)] at i2
    clear h
    go_enter Tryd.func21, Tryd.ntmps21
    go_wp2_with (first | (go_at_call 20; (with_reducible refine (i1 _).mono ?_); rintro e w' ⟨rfl, hw⟩; obtain rfl := hw.symm) | (go_at_call 20; (with_reducible refine (i2 _).mono ?_); rintro e w' ⟨rfl, hw⟩; obtain rfl := hw.symm))
    go_ret3
    exact ⟨_, rfl, own_empty w 3 1, below_one _ _⟩
  · rw [decide_eq_false c1] at i1
    clear h
    clear i2
    go_enter Tryd.func21, Tryd.ntmps21
    go_wp2_with (first | (go_at_call 20; (with_reducible refine (i1 _).mono ?_); rintro e w' ⟨rfl, hw⟩; obtain rfl := hw.symm))
    go_ret3
    exact ⟨_, rfl, own_empty w 3 1, below_one _ _⟩

end Go.Proofs.YtndagpompioooabDoor
