/- Lifting: guesses and mends of the model and of the program. -/
import Derived.Test.YtbcjbighipeafaaLA
namespace Go.Proofs.Ytbcjbighipeafaa
open Go.RowKit

theorem il_drewN {w : World} {v : Value} {n : Nat} {xs : Nat → Int} (h : Il w v n xs) (m : Nat) : Il (w.drewN m) v n xs := h.below (below_drewN (Below.refl _ _) m)

set_option maxHeartbeats 2000000 in
theorem sGuess_any {w : World} {v : Value} {n : Nat} {xs : Nat → Int} {kind M : Int} (hk : Knd kind) (hv : Il w v n xs) (hn : n ≤ 1048576) (hM : M ≤ 10000000000000000) (hx : Wth M n xs) (i : Nat) (hi : i < n) :
    Calls Try.prog 44 #[.int .i64 kind, v, .int .i64 i] w fun e w' => e = .returned (.int .i64 (gs kind n xs i)) ∧ ∃ m, w' = w.drewN m := by
  have HV : Hid (Il w v n xs) := hv
  have HA : Hid (∀ W j, Il W v n xs → (-9 ≤ j ∧ j ≤ 1048590) → Calls Try.prog 54 #[v, .int .i64 j] W fun e w' => e = .returned (.int .i64 (nea n xs j)) ∧ w' = W) := fun W j hW hj => sAt_any hW (by omega) hn j hj
  have b0 := hx i hi
  have b1 := nea_bounds hx (by omega) ((i : Int) + 1)
  have b2 := nea_bounds hx (by omega) ((i : Int) - 1)
  have b3 := nea_bounds hx (by omega) ((i : Int) + 2)
  have hcases : kind = 1 ∨ kind = 2 ∨ kind = 3 := by omega
  rcases hcases with rfl | rfl | rfl
  · obtain ⟨ao, cap, rfl, hcap, hc⟩ := hv
    obtain ⟨b, off, rfl, hlt, hcell⟩ := hc (by omega)
    have c := hcell i hi
    clear hc hcell HA
    rw [gs_1]
    go_enter Try.func44, Try.ntmps44
    go_wp2
    go_ret
    exact ⟨rfl, 0, rfl⟩
  · rw [gs_2]
    obtain ⟨ao, cap, rfl, hcap, hc⟩ := hv
    obtain ⟨b, off, rfl, hlt, hcell⟩ := hc (by omega)
    have c := hcell i hi
    have a1 := fun W hW => HA.out W ((i : Int) + 1) hW (by omega)
    have fl := floor_any (xs i + nea n xs ((i : Int) + 1)) 2 (by omega) (by omega)
    generalize nea n xs ((i : Int) + 1) = X1 at b1 a1 fl ⊢
    generalize xs i = X at b0 c fl ⊢
    clear hc hcell HA b2 b3
    go_enter Try.func44, Try.ntmps44
    go_wp2_with (go_quiet (first | (go_at_call 54; with_reducible exact Calls.quiet_of_same (a1 _ (il_drewN HV.out _))) | (go_at_call 53; with_reducible exact Calls.quiet_of_same (fl _))))
    go_ret
    exact ⟨rfl, _, rfl⟩
  · rw [gs_3]
    obtain ⟨ao, cap, rfl, hcap, hc⟩ := hv
    obtain ⟨b, off, rfl, hlt, hcell⟩ := hc (by omega)
    have c := hcell i hi
    have a1 := fun W hW => HA.out W ((i : Int) + 1) hW (by omega)
    have a2 := fun W hW => HA.out W ((i : Int) - 1) hW (by omega)
    have a3 := fun W hW => HA.out W ((i : Int) + 2) hW (by omega)
    have fl := floor_any (9 * (xs i + nea n xs ((i : Int) + 1)) - nea n xs ((i : Int) - 1) - nea n xs ((i : Int) + 2) + 8) 16 (by omega) (by omega)
    generalize nea n xs ((i : Int) + 1) = X1 at b1 a1 fl ⊢
    generalize nea n xs ((i : Int) - 1) = X2 at b2 a2 fl ⊢
    generalize nea n xs ((i : Int) + 2) = X3 at b3 a3 fl ⊢
    generalize xs i = X at b0 c fl ⊢
    clear hc hcell HA
    go_enter Try.func44, Try.ntmps44
    go_wp2_with (go_quiet (first | (go_at_call 54; with_reducible exact Calls.quiet_of_same (a1 _ (il_drewN HV.out _))) | (go_at_call 54; with_reducible exact Calls.quiet_of_same (a2 _ (il_drewN HV.out _))) | (go_at_call 54; with_reducible exact Calls.quiet_of_same (a3 _ (il_drewN HV.out _))) | (go_at_call 53; with_reducible exact Calls.quiet_of_same (fl _))))
    go_ret
    exact ⟨rfl, _, rfl⟩

set_option maxHeartbeats 2000000 in
theorem sMend_any {w : World} {v : Value} {n : Nat} {xs : Nat → Int} {kind M : Int} (hk : Knd kind) (hv : Il w v n xs) (hn : n ≤ 1048576) (hM : M ≤ 100000000000000000) (hx : Wth M n xs) (i : Nat) (hi : i ≤ 1048576) :
    Calls Try.prog 43 #[.int .i64 kind, v, .int .i64 i] w fun e w' => e = .returned (.int .i64 (md kind n xs i)) ∧ ∃ m, w' = w.drewN m := by
  have HV : Hid (Il w v n xs) := hv
  by_cases h0 : n = 0
  · subst h0
    rw [md_0]
    obtain ⟨ao, cap, rfl, hcap, hc⟩ := hv
    clear hc
    go_enter Try.func43, Try.ntmps43
    go_wp2
    go_ret
    exact ⟨rfl, 0, rfl⟩
  by_cases hk1 : kind = 1
  · subst hk1
    by_cases h1 : i < n
    · rw [md_1 xs h1]
      obtain ⟨ao, cap, rfl, hcap, hc⟩ := hv
      obtain ⟨b, off, rfl, hlt, hcell⟩ := hc (by omega)
      have c := hcell i h1
      have b0 := hx i h1
      have fl := floor_any (xs i) 2 (by omega) (by omega)
      clear hc hcell
      generalize xs i = X at b0 c fl ⊢
      have q0 : ((n : Int) == 0) = false := by simp; omega
      have q1 : decide (n ≤ i) = false := by simp; omega
      go_enter Try.func43, Try.ntmps43
      go_wp2_with (first | (go_at_call 53; (with_reducible refine (fl _).mono ?_); rintro e w' ⟨rfl, hw⟩; obtain rfl := hw.symm))
      go_ret
      exact ⟨rfl, 0, rfl⟩
    · rw [md_1b xs (by omega)]
      obtain ⟨ao, cap, rfl, hcap, hc⟩ := hv
      clear hc
      go_enter Try.func43, Try.ntmps43
      go_wp2
      go_ret
      exact ⟨rfl, 0, rfl⟩
  · rw [md_23 hk1 xs i (by omega)]
    have b1 := nea_bounds hx (by omega) (i : Int)
    have b2 := nea_bounds hx (by omega) ((i : Int) - 1)
    have a1 := fun W hW => sAt_any (w := W) (v := v) (xs := xs) hW (by omega) hn (i : Int) (by omega)
    have a2 := fun W hW => sAt_any (w := W) (v := v) (xs := xs) hW (by omega) hn ((i : Int) - 1) (by omega)
    have fl := floor_any (nea n xs ((i : Int) - 1) + nea n xs i + 2) 4 (by omega) (by omega)
    generalize nea n xs (i : Int) = X1 at b1 a1 fl ⊢
    generalize nea n xs ((i : Int) - 1) = X2 at b2 a2 fl ⊢
    obtain ⟨ao, cap, rfl, hcap, hc⟩ := hv
    clear hc
    go_enter Try.func43, Try.ntmps43
    go_wp2_with (first
      | (go_at_call 54; with_reducible refine (a2 _ HV.out).mono ?_; rintro e w' ⟨rfl, hw⟩; obtain rfl := hw.symm)
      | (go_at_call 54; with_reducible refine (a1 _ HV.out).mono ?_; rintro e w' ⟨rfl, hw⟩; obtain rfl := hw.symm)
      | (go_at_call 53; (with_reducible refine (fl _).mono ?_); rintro e w' ⟨rfl, hw⟩; obtain rfl := hw.symm))
    go_ret
    exact ⟨rfl, 0, rfl⟩
end Go.Proofs.Ytbcjbighipeafaa
