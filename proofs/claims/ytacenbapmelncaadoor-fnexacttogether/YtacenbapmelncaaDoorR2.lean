/- Inverses, whole lengths, units: the model's. -/
import Derived.Test.YtacenbapmelncaaDoorR1
namespace Go.Proofs.YtacenbapmelncaaDoor
open Go.RowKit

/-- What InvMod answers. -/
def ivV (a p : Int) : Int := if Prm p ∧ (1 ≤ a ∧ a ≤ p - 1) then a ^ (p - 2).toNat % p else 0
theorem ivV_yes {a p : Int} (hp : Prm p) (ha : 1 ≤ a ∧ a ≤ p - 1) : pwV a (p - 2) p = ivV a p := by
  have hb := hp.bounds
  rw [← pwV_yes hp (by omega) (by omega)]
  unfold ivV
  rw [if_pos ⟨hp, ha⟩]
theorem ivV_no {a p : Int} (h : ¬ (Prm p ∧ (1 ≤ a ∧ a ≤ p - 1))) : 0 = ivV a p := by unfold ivV; rw [if_neg h]

set_option maxHeartbeats 1000000 in
theorem sInv_any (a p : Int) (w : World) : Calls Tryd.prog 7 #[.int .i64 a, .int .i64 p] w fun e w' => e = .returned (.int .i64 (ivV a p)) ∧ w' = w := by
  have i1 := sPrm_any p
  by_cases hp : Prm p
  · rw [decide_eq_true hp] at i1
    have hpb := hp.bounds
    have i2 := in_any a 1 (p - 1)
    by_cases ha : 1 ≤ a ∧ a ≤ p - 1
    · rw [decide_eq_true ha] at i2
      have i3 := sPow_any a (p - 2) p
      rw [ivV_yes hp ha] at i3
      generalize ivV a p = R at i3 ⊢
      clear hp
      go_enter Tryd.func7, Tryd.ntmps7
      go_wp2_with (first | (go_at_call 17; (with_reducible refine (i1 _).mono ?_); rintro e w' ⟨rfl, hw⟩; obtain rfl := hw.symm) | (go_at_call 6; (with_reducible refine (i2 _).mono ?_); rintro e w' ⟨rfl, hw⟩; obtain rfl := hw.symm) | (go_at_call 18; (with_reducible refine (i3 _).mono ?_); rintro e w' ⟨rfl, hw⟩; obtain rfl := hw.symm))
      go_ret
      exact ⟨rfl, rfl⟩
    · rw [decide_eq_false ha] at i2
      have E : Hid (0 = ivV a p) := ivV_no (fun h => ha h.2)
      clear ha hp
      go_enter Tryd.func7, Tryd.ntmps7
      go_wp2_with (first | (go_at_call 17; (with_reducible refine (i1 _).mono ?_); rintro e w' ⟨rfl, hw⟩; obtain rfl := hw.symm) | (go_at_call 6; (with_reducible refine (i2 _).mono ?_); rintro e w' ⟨rfl, hw⟩; obtain rfl := hw.symm))
      go_ret
      exact ⟨congrArg (fun z => Ending.returned (.int .i64 z)) E.out, rfl⟩
  · rw [decide_eq_false hp] at i1
    have E : Hid (0 = ivV a p) := ivV_no (fun h => hp h.1)
    clear hp
    go_enter Tryd.func7, Tryd.ntmps7
    go_wp2_with ((go_at_call 17; (with_reducible refine (i1 _).mono ?_); rintro e w' ⟨rfl, hw⟩; obtain rfl := hw.symm))
    go_ret
    exact ⟨congrArg (fun z => Ending.returned (.int .i64 z)) E.out, rfl⟩

/-- A whole length. -/
abbrev Whl (n : Int) : Prop := n = 1 ∨ n = 2 ∨ n = 4 ∨ n = 8 ∨ n = 16 ∨ n = 32 ∨ n = 64 ∨ n = 128 ∨ n = 256

/-- What Unit answers. -/
def unV (n p : Int) : Int := if Prm p ∧ Whl n then 3 ^ ((p - 1) / n).toNat % p else 0
theorem Whl.bounds {n : Int} (h : Whl n) : 1 ≤ n ∧ n ≤ 256 := by rcases h with h | h | h | h | h | h | h | h | h <;> omega
theorem unV_yes {n p : Int} (hp : Prm p) (hn : Whl n) : pwV 3 ((p - 1) / n) p = unV n p := by
  have hb := hp.bounds
  have hq := hn.bounds
  have h0 := Int.ediv_nonneg (show 0 ≤ p - 1 by omega) (show 0 ≤ n by omega)
  have h1 := Int.ediv_le_self n (show 0 ≤ p - 1 by omega)
  rw [← pwV_yes hp (by omega) (by omega)]
  unfold unV
  rw [if_pos ⟨hp, hn⟩]
theorem unV_no {n p : Int} (h : ¬ (Prm p ∧ Whl n)) : 0 = unV n p := by unfold unV; rw [if_neg h]

end Go.Proofs.YtacenbapmelncaaDoor
