/- UB UC UD. -/
import Derived.Test.YtndagpompioooabDoorUA
import Derived.Test.YtndagpompioooabDoorEB
import Derived.Test.YtndagpompioooabDoorI1
import Derived.RegionTactic
import Derived.BigQuiet
import Derived.Test.YtndagpompioooabDoorD4
import Derived.Test.YtndagpompioooabDoorAP
namespace Go.Proofs.YtndagpompioooabDoor
open Go.RowKit

theorem Only.drewN {g : Nat} {w w' : World} (h : Only g w w') (n : Nat) : Only g w (w'.drewN n) := ⟨h.os, h.tape, h.output, h.size, h.block⟩
theorem Only.trans {g : Nat} {w w' w3 : World} (h : Only g w w') (h2 : Only g w' w3) : Only g w w3 := ⟨h2.os.trans h.os, h2.tape.trans h.tape, h2.output.trans h.output, Nat.le_trans h.size h2.size, fun k hk => (h2.block k hk).trans (h.block k hk)⟩

end Go.Proofs.YtndagpompioooabDoor

namespace Go.Proofs.YtndagpompioooabDoor
open Go.RowKit

theorem unf_any {u : Nat} (h : u ≤ 2000000000) (w : World) : Calls Tryd.prog 65 #[.int .i64 (u : Int)] w fun e w' => e = .returned (.int .i64 (unf u)) ∧ w' = w := by
  have e0 : (u : Int).tmod 2 = ((u % 2 : Nat) : Int) := by rw [Int.tmod_eq_emod_of_nonneg (by omega)]; omega
  have e9 : (u : Int) % 2 = ((u % 2 : Nat) : Int) := by omega
  by_cases h1 : u % 2 = 1
  · have e1 : unf u = -(((u + 1) / 2 : Nat) : Int) := by unfold unf; rw [if_pos h1]
    obtain ⟨z, hz⟩ : ∃ z : Nat, z = (u + 1) / 2 := ⟨_, rfl⟩
    have hz2 : z ≤ 1000000001 := by omega
    have e2 : (-((u : Int) + 1)).tdiv 2 = -(z : Int) := by rw [Int.neg_tdiv, Int.tdiv_eq_ediv_of_nonneg (by omega)]; omega
    have e3 : (-1 + -(u : Int)).tdiv 2 = -(z : Int) := by rw [← e2]; congr 1; omega
    have e4 : (-(u : Int) - 1).tdiv 2 = -(z : Int) := by rw [← e2]; congr 1; omega
    rw [e1, ← hz]
    rw [h1] at e0 e9
    clear e1 hz
    go_enter Tryd.func65, Tryd.ntmps65
    go_wp2
    go_ret
    exact ⟨rfl, rfl⟩
  · have e1 : unf u = ((u / 2 : Nat) : Int) := by unfold unf; rw [if_neg h1]
    obtain ⟨z, hz⟩ : ∃ z : Nat, z = u / 2 := ⟨_, rfl⟩
    have e2 : (u : Int).tdiv 2 = (z : Int) := by rw [Int.tdiv_eq_ediv_of_nonneg (by omega)]; omega
    have e3 : (u : Int) / 2 = (z : Int) := by omega
    rw [e1, ← hz]
    have h2 : u % 2 = 0 := by omega
    rw [h2] at e0 e9
    clear e1 hz
    go_enter Tryd.func65, Tryd.ntmps65
    go_wp2
    go_ret
    exact ⟨rfl, rfl⟩

end Go.Proofs.YtndagpompioooabDoor

namespace Go.Proofs.YtndagpompioooabDoor
open Go.RowKit

/-- A list as a function. -/
def lf (L : List Int) (i : Nat) : Int := L.getD i 0

theorem lf_left {L M : List Int} {i : Nat} (h : i < L.length) : lf (L ++ M) i = lf L i := by
  unfold lf
  rw [List.getD_eq_getElem?_getD, List.getD_eq_getElem?_getD, List.getElem?_append_left h]

theorem lf_right {L M : List Int} {i : Nat} (h : L.length ≤ i) : lf (L ++ M) i = lf M (i - L.length) := by
  unfold lf
  rw [List.getD_eq_getElem?_getD, List.getD_eq_getElem?_getD, List.getElem?_append_right h]

theorem lf_new (L : List Int) (x : Int) : lf (L ++ [x]) L.length = x := by
  rw [lf_right (Nat.le_refl _), Nat.sub_self]
  rfl

theorem len_snoc (L : List Int) (x : Int) : (L ++ [x]).length = L.length + 1 := by rw [List.length_append, List.length_singleton]

theorem ils_lf_snoc (L : List Int) (x : Int) : ils (lf L) L.length ++ [.int .i64 x] = ils (lf (L ++ [x])) (L.length + 1) := by
  rw [ils_snoc, lf_new]
  congr 1
  exact ils_congr fun k hk => (lf_left hk).symm

/-- One more in a row. -/
theorem ol_snoc {w : World} {B : Nat} {v : Value} {L : List Int} {x : Int} (h : w.ownsRow B 3 1 v (L.length + 1) (ils (lf L) L.length ++ [.int .i64 x])) : w.ownsRow B 3 1 v (L ++ [x]).length (ils (lf (L ++ [x])) (L ++ [x]).length) := by
  rw [len_snoc, ← ils_lf_snoc]
  exact h

theorem Only.keep {g : Nat} {w w' : World} (h : Only g w w') : Keep g w w' := ⟨h.os, h.tape, h.output, h.size, fun k hk _ => h.block k hk⟩

theorem unf_in {u : Nat} (h : u ≤ 2000000000) : -1000000001 ≤ unf u ∧ unf u ≤ 1000000001 := by
  unfold unf
  split <;> omega

end Go.Proofs.YtndagpompioooabDoor
