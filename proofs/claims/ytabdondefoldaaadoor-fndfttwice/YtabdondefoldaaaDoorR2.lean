/- Inverses, whole lengths, units: the model's. -/
import Derived.Test.YtabdondefoldaaaDoorR1
namespace Go.Proofs.YtabdondefoldaaaDoor
open Go.RowKit

/-- What InvMod answers. -/
def ivV (a p : Int) : Int := if Prm p ∧ (1 ≤ a ∧ a ≤ p - 1) then a ^ (p - 2).toNat % p else 0
theorem ivV_yes {a p : Int} (hp : Prm p) (ha : 1 ≤ a ∧ a ≤ p - 1) : pwV a (p - 2) p = ivV a p := by
  have hb := hp.bounds
  rw [← pwV_yes hp (by omega) (by omega)]
  unfold ivV
  rw [if_pos ⟨hp, ha⟩]
theorem ivV_no {a p : Int} (h : ¬ (Prm p ∧ (1 ≤ a ∧ a ≤ p - 1))) : 0 = ivV a p := by unfold ivV; rw [if_neg h]

set_option maxHeartbeats 1000000 in
theorem sInv_any (a p : Int) (w : World) : Calls Tryd.prog 39 #[.int .i64 a, .int .i64 p] w fun e w' => e = .returned (.int .i64 (ivV a p)) ∧ w' = w := by
  have i1 := sPrm_any p
  by_cases hp : Prm p
  · rw [decide_eq_true hp] at i1
    have hpb := hp.bounds
    have i2 := in_any a 1 (p - 1)
    by_cases ha : 1 ≤ a ∧ a ≤ p - 1
    · rw [decide_eq_true ha] at i2
      have i3 := sPow_any a (p - 2) p
      rw [ivV_yes hp ha] at i3
      generalize ivV a p = R at i3 ⊢
      clear hp
      go_enter Tryd.func39, Tryd.ntmps39
      go_wp2_with (first | (go_at_call 36; (with_reducible refine (i1 _).mono ?_); rintro e w' ⟨rfl, hw⟩; obtain rfl := hw.symm) | (go_at_call 47; (with_reducible refine (i2 _).mono ?_); rintro e w' ⟨rfl, hw⟩; obtain rfl := hw.symm) | (go_at_call 48; (with_reducible refine (i3 _).mono ?_); rintro e w' ⟨rfl, hw⟩; obtain rfl := hw.symm))
      go_ret
      exact ⟨rfl, rfl⟩
    · rw [decide_eq_false ha] at i2
      have E : Hid (0 = ivV a p) := ivV_no (fun h => ha h.2)
      clear ha hp
      go_enter Tryd.func39, Tryd.ntmps39
      go_wp2_with (first | (go_at_call 36; (with_reducible refine (i1 _).mono ?_); rintro e w' ⟨rfl, hw⟩; obtain rfl := hw.symm) | (go_at_call 47; (with_reducible refine (i2 _).mono ?_); rintro e w' ⟨rfl, hw⟩; obtain rfl := hw.symm))
      go_ret
      exact ⟨congrArg (fun z => Ending.returned (.int .i64 z)) E.out, rfl⟩
  · rw [decide_eq_false hp] at i1
    have E : Hid (0 = ivV a p) := ivV_no (fun h => hp h.1)
    clear hp
    go_enter Tryd.func39, Tryd.ntmps39
    go_wp2_with ((go_at_call 36; (with_reducible refine (i1 _).mono ?_); rintro e w' ⟨rfl, hw⟩; obtain rfl := hw.symm))
    go_ret
    exact ⟨congrArg (fun z => Ending.returned (.int .i64 z)) E.out, rfl⟩

/-- A whole length. -/
abbrev Whl (n : Int) : Prop := n = 1 ∨ n = 2 ∨ n = 4 ∨ n = 8 ∨ n = 16 ∨ n = 32 ∨ n = 64 ∨ n = 128 ∨ n = 256

set_option maxHeartbeats 2000000 in
theorem sWhl_any (n : Int) (w : World) : Calls Tryd.prog 21 #[.int .i64 n] w fun e w' => e = .returned (.bool (decide (Whl n))) ∧ w' = w := by
  obtain ⟨d, hd⟩ : ∃ d, d = decide (Whl n) := ⟨_, rfl⟩
  rw [← hd]
  have HD : Hid _ := hd
  clear hd
  go_enter Tryd.func21, Tryd.ntmps21
  go_wp2
  go_loopw [3] (fun v wr => ∃ k : Int, v = .int .i64 k ∧ wr = w ∧ Hid ((Whl k ∨ k = 512) ∧ ∀ j, Whl j → j < k → n ≠ j)) (fun v _ => 512 - (intOf v).toNat)
  case atStart => exact ⟨1, rfl, rfl, .inl (.inl rfl), fun j hj hl => by rcases hj with h | h | h | h | h | h | h | h | h <;> omega⟩
  case round =>
    obtain ⟨k, rfl, hw, hrel⟩ := hrel
    obtain rfl := hw.symm
    obtain ⟨hk, hall⟩ := hrel.out
    clear hrel
    by_cases h5 : k = 512
    · subst h5
      have E : Hid (false = d) := by
        rw [HD.out]
        refine (decide_eq_false (fun h => hall n h ?_ rfl)).symm
        rcases h with h | h | h | h | h | h | h | h | h <;> omega
      clear hk hall
      go_wp2
      go_ret
      exact ⟨congrArg (fun z => Ending.returned (.bool z)) E.out, rfl⟩
    · have hk' : Whl k := by rcases hk with h | h; exact h; exact absurd h h5
      have hkb : 1 ≤ k ∧ k ≤ 256 := by rcases hk' with h | h | h | h | h | h | h | h | h <;> omega
      by_cases he : n = k
      · have E : Hid (true = d) := by rw [HD.out, he]; exact (decide_eq_true hk').symm
        clear hk hall hk'
        subst he
        go_wp2
        go_ret
        exact ⟨congrArg (fun z => Ending.returned (.bool z)) E.out, rfl⟩
      · have HA : Hid ((Whl (2 * k) ∨ 2 * k = 512) ∧ ∀ j, Whl j → j < 2 * k → n ≠ j) := by
          refine ⟨?_, fun j hj hl => ?_⟩
          · rcases hk' with h | h | h | h | h | h | h | h | h <;> subst h <;> decide
          · by_cases hjk : j < k
            · exact hall j hj hjk
            · have : j = k := by rcases hk' with h | h | h | h | h | h | h | h | h <;> rcases hj with h' | h' | h' | h' | h' | h' | h' | h' | h' <;> omega
              rw [this]
              exact he
        clear hk hall hk'
        go_wp2
        go_roundw
        case rel => exact ⟨2 * k, rfl, by trivial, HA.out⟩
        case measure => simp [intOf]; omega

/-- What Unit answers. -/
def unV (n p : Int) : Int := if Prm p ∧ Whl n then 3 ^ ((p - 1) / n).toNat % p else 0
theorem Whl.bounds {n : Int} (h : Whl n) : 1 ≤ n ∧ n ≤ 256 := by rcases h with h | h | h | h | h | h | h | h | h <;> omega
theorem unV_yes {n p : Int} (hp : Prm p) (hn : Whl n) : pwV 3 ((p - 1) / n) p = unV n p := by
  have hb := hp.bounds
  have hq := hn.bounds
  have h0 := Int.ediv_nonneg (show 0 ≤ p - 1 by omega) (show 0 ≤ n by omega)
  have h1 := Int.ediv_le_self n (show 0 ≤ p - 1 by omega)
  rw [← pwV_yes hp (by omega) (by omega)]
  unfold unV
  rw [if_pos ⟨hp, hn⟩]
theorem unV_no {n p : Int} (h : ¬ (Prm p ∧ Whl n)) : 0 = unV n p := by unfold unV; rw [if_neg h]

set_option maxHeartbeats 1000000 in
theorem sUnit_any (n p : Int) (w : World) : Calls Tryd.prog 38 #[.int .i64 n, .int .i64 p] w fun e w' => e = .returned (.int .i64 (unV n p)) ∧ w' = w := by
  have i1 := sPrm_any p
  have i2 := sWhl_any n
  by_cases hp : Prm p
  · rw [decide_eq_true hp] at i1
    have hpb := hp.bounds
    by_cases hn : Whl n
    · rw [decide_eq_true hn] at i2
      have hnb := hn.bounds
      have i3 := sPow_any 3 ((p - 1) / n) p
      rw [unV_yes hp hn] at i3
      generalize unV n p = R at i3 ⊢
      clear hp hn
      go_enter Tryd.func38, Tryd.ntmps38
      go_wp2_with (first | (go_at_call 36; (with_reducible refine (i1 _).mono ?_); rintro e w' ⟨rfl, hw⟩; obtain rfl := hw.symm) | (go_at_call 21; (with_reducible refine (i2 _).mono ?_); rintro e w' ⟨rfl, hw⟩; obtain rfl := hw.symm) | (go_at_call 48; (with_reducible refine (i3 _).mono ?_); rintro e w' ⟨rfl, hw⟩; obtain rfl := hw.symm))
      go_ret
      exact ⟨rfl, rfl⟩
    · rw [decide_eq_false hn] at i2
      have E : Hid (0 = unV n p) := unV_no (fun h => hn h.2)
      clear hn hp
      go_enter Tryd.func38, Tryd.ntmps38
      go_wp2_with (first | (go_at_call 36; (with_reducible refine (i1 _).mono ?_); rintro e w' ⟨rfl, hw⟩; obtain rfl := hw.symm) | (go_at_call 21; (with_reducible refine (i2 _).mono ?_); rintro e w' ⟨rfl, hw⟩; obtain rfl := hw.symm))
      go_ret
      exact ⟨congrArg (fun z => Ending.returned (.int .i64 z)) E.out, rfl⟩
  · rw [decide_eq_false hp] at i1
    have E : Hid (0 = unV n p) := unV_no (fun h => hp h.1)
    clear hp
    go_enter Tryd.func38, Tryd.ntmps38
    go_wp2_with ((go_at_call 36; (with_reducible refine (i1 _).mono ?_); rintro e w' ⟨rfl, hw⟩; obtain rfl := hw.symm))
    go_ret
    exact ⟨congrArg (fun z => Ending.returned (.int .i64 z)) E.out, rfl⟩
end Go.Proofs.YtabdondefoldaaaDoor
