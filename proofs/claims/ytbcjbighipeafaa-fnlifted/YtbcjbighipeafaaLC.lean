/- Lifting: the program's closures. -/
import Derived.Test.YtbcjbighipeafaaLB
namespace Go.Proofs.Ytbcjbighipeafaa
open Go.RowKit

set_option maxHeartbeats 2000000 in
theorem g42_any {w : World} {g : Nat} {v : Value} {n : Nat} {xs : Nat → Int} (hg : w.cell? ⟨g, 0, none⟩ = some v) (hv : Il w v n xs) (i : Nat) (hi : i < n) (hn : n ≤ 1048576) :
    Calls Try.prog 47 #[.int .i64 i, .pointer (some ⟨g, 0, none⟩)] w fun e w' => e = .returned (.int .i64 (gs 1 n xs i)) ∧ ∃ m, w' = w.drewN m := by
  obtain ⟨ao, cap, rfl, hcap, hc⟩ := hv
  obtain ⟨b, off, rfl, hlt, hcell⟩ := hc (by omega)
  have c := hcell i hi
  clear hc hcell
  rw [gs_1]
  go_enter Try.func47, Try.ntmps47
  go_wp2
  go_ret
  exact ⟨rfl, 0, rfl⟩

set_option maxHeartbeats 2000000 in
theorem g44_any {w : World} {g : Nat} {v : Value} {n : Nat} {xs : Nat → Int} {M : Int} (hg : w.cell? ⟨g, 0, none⟩ = some v) (hv : Il w v n xs) (i : Nat) (hi : i < n) (hn : n ≤ 1048576) (hM : M ≤ 10000000000000000) (hx : Wth M n xs) :
    Calls Try.prog 49 #[.int .i64 i, .pointer (some ⟨g, 0, none⟩)] w fun e w' => e = .returned (.int .i64 (gs 2 n xs i)) ∧ ∃ m, w' = w.drewN m := by
  have HV : Hid (Il w v n xs) := hv
  have b0 := hx i hi
  have b1 := nea_bounds hx (by omega) ((i : Int) + 1)
  have a1 := fun W hW => iNear_any (w := W) (v := v) (xs := xs) hW (by omega) hn ((i : Int) + 1) (by omega)
  rw [gs_2]
  obtain ⟨ao, cap, rfl, hcap, hc⟩ := hv
  obtain ⟨b, off, rfl, hlt, hcell⟩ := hc (by omega)
  have c := hcell i hi
  generalize nea n xs ((i : Int) + 1) = X1 at b1 a1 ⊢
  generalize xs i = X at b0 c ⊢
  clear hc hcell
  go_enter Try.func49, Try.ntmps49
  go_wp2_with (go_quiet (first | (go_at_call 50; with_reducible exact Calls.quiet_of_same (a1 _ (il_drewN HV.out _)))))
  go_ret
  exact ⟨rfl, _, rfl⟩

set_option maxHeartbeats 2000000 in
theorem g47_any {w : World} {g : Nat} {v : Value} {n : Nat} {xs : Nat → Int} {M : Int} (hg : w.cell? ⟨g, 0, none⟩ = some v) (hv : Il w v n xs) (i : Nat) (hi : i < n) (hn : n ≤ 1048576) (hM : M ≤ 10000000000000000) (hx : Wth M n xs) :
    Calls Try.prog 52 #[.int .i64 i, .pointer (some ⟨g, 0, none⟩)] w fun e w' => e = .returned (.int .i64 (gs 3 n xs i)) ∧ ∃ m, w' = w.drewN m := by
  have HV : Hid (Il w v n xs) := hv
  have b0 := hx i hi
  have b1 := nea_bounds hx (by omega) ((i : Int) + 1)
  have b2 := nea_bounds hx (by omega) ((i : Int) - 1)
  have b3 := nea_bounds hx (by omega) ((i : Int) + 2)
  have a1 := fun W hW => iNear_any (w := W) (v := v) (xs := xs) hW (by omega) hn ((i : Int) + 1) (by omega)
  have a2 := fun W hW => iNear_any (w := W) (v := v) (xs := xs) hW (by omega) hn ((i : Int) - 1) (by omega)
  have a3 := fun W hW => iNear_any (w := W) (v := v) (xs := xs) hW (by omega) hn ((i : Int) + 2) (by omega)
  rw [gs_3]
  obtain ⟨ao, cap, rfl, hcap, hc⟩ := hv
  obtain ⟨b, off, rfl, hlt, hcell⟩ := hc (by omega)
  have c := hcell i hi
  generalize nea n xs ((i : Int) + 1) = X1 at b1 a1 ⊢
  generalize nea n xs ((i : Int) - 1) = X2 at b2 a2 ⊢
  generalize nea n xs ((i : Int) + 2) = X3 at b3 a3 ⊢
  generalize xs i = X at b0 c ⊢
  have E : Hid ((9 * (X + X1) - (X2 + X3) + 8) / 2 ^ 4 = (9 * (X + X1) - X2 - X3 + 8) / 16) := by show (9 * (X + X1) - (X2 + X3) + 8) / 2 ^ 4 = (9 * (X + X1) - X2 - X3 + 8) / 16; congr 1; omega
  clear hc hcell
  go_enter Try.func52, Try.ntmps52
  go_wp2_with (go_quiet (first | (go_at_call 50; with_reducible exact Calls.quiet_of_same (a1 _ (il_drewN HV.out _)))))
  have V2 : Hid (Il (w.drewN nq) (.slice (some ⟨b, off, none⟩) n cap) n xs) := il_drewN HV.out nq
  have g2 : (w.drewN nq).cell? ⟨g, 0, none⟩ = some (.slice (some ⟨b, off, none⟩) n cap) := hg
  obtain ⟨W2, hW2⟩ : ∃ W2, Hid (W2 = w.drewN nq) := ⟨_, rfl⟩
  rw [← hW2.out] at V2 g2 ⊢
  go_wp2_with (go_quiet (first | (go_at_call 50; with_reducible exact Calls.quiet_of_same (a2 _ (il_drewN V2.out _))) | (go_at_call 50; with_reducible exact Calls.quiet_of_same (a3 _ (il_drewN V2.out _)))))
  go_ret
  exact ⟨by rw [← E.out]; rfl, _, by rw [hW2.out]; exact World.drewN_drewN _ _ _⟩

set_option maxHeartbeats 2000000 in
theorem m48_any {w : World} {g : Nat} {v : Value} {n : Nat} {xs : Nat → Int} {M : Int} (hg : w.cell? ⟨g, 0, none⟩ = some v) (hv : Il w v n xs) (i : Nat) (hi : i ≤ 1048576) (hn : n ≤ 1048576) (_ : M ≤ 100000000000000000) (hx : Wth M n xs) :
    Calls Try.prog 55 #[.int .i64 i, .pointer (some ⟨g, 0, none⟩)] w fun e w' => e = .returned (.int .i64 (md 1 n xs i)) ∧ ∃ m, w' = w.drewN m := by
  by_cases h1 : i < n
  · rw [md_1 xs h1]
    obtain ⟨ao, cap, rfl, hcap, hc⟩ := hv
    obtain ⟨b, off, rfl, hlt, hcell⟩ := hc (by omega)
    have c := hcell i h1
    have b0 := hx i h1
    clear hc hcell
    generalize xs i = X at b0 c ⊢
    go_enter Try.func55, Try.ntmps55
    go_wp2
    go_ret
    exact ⟨rfl, 0, rfl⟩
  · rw [md_1b xs (by omega)]
    obtain ⟨ao, cap, rfl, hcap, hc⟩ := hv
    clear hc
    go_enter Try.func55, Try.ntmps55
    go_wp2
    go_ret
    exact ⟨rfl, 0, rfl⟩

set_option maxHeartbeats 2000000 in
theorem m49_any {w : World} {g : Nat} {v : Value} {n : Nat} {xs : Nat → Int} {kind M : Int} (hk1 : kind ≠ 1) (hg : w.cell? ⟨g, 0, none⟩ = some v) (hv : Il w v n xs) (i : Nat) (hi : i ≤ 1048576) (hn : n ≤ 1048576) (hM : M ≤ 100000000000000000) (hx : Wth M n xs) :
    Calls Try.prog 56 #[.int .i64 i, .pointer (some ⟨g, 0, none⟩)] w fun e w' => e = .returned (.int .i64 (md kind n xs i)) ∧ ∃ m, w' = w.drewN m := by
  have HV : Hid (Il w v n xs) := hv
  by_cases h0 : n = 0
  · subst h0
    rw [md_0]
    obtain ⟨ao, cap, rfl, hcap, hc⟩ := hv
    clear hc
    go_enter Try.func56, Try.ntmps56
    go_wp2
    go_ret
    exact ⟨rfl, 0, rfl⟩
  · rw [md_23 hk1 xs i (by omega)]
    have b1 := nea_bounds hx (by omega) (i : Int)
    have b2 := nea_bounds hx (by omega) ((i : Int) - 1)
    have a1 := fun W hW => iNear_any (w := W) (v := v) (xs := xs) hW (by omega) hn (i : Int) (by omega)
    have a2 := fun W hW => iNear_any (w := W) (v := v) (xs := xs) hW (by omega) hn ((i : Int) - 1) (by omega)
    generalize nea n xs (i : Int) = X1 at b1 a1 ⊢
    generalize nea n xs ((i : Int) - 1) = X2 at b2 a2 ⊢
    obtain ⟨ao, cap, rfl, hcap, hc⟩ := hv
    clear hc
    have q0 : ((n : Int) == 0) = false := by simp; omega
    go_enter Try.func56, Try.ntmps56
    go_wp2_with (first
      | (go_quiet (first | (go_at_call 50; with_reducible exact Calls.quiet_of_same (a1 _ (il_drewN HV.out _))) | (go_at_call 50; with_reducible exact Calls.quiet_of_same (a2 _ (il_drewN HV.out _)))))
      | (go_at_call 50; with_reducible refine (a2 _ HV.out).mono ?_; rintro e w' ⟨rfl, hw⟩; obtain rfl := hw.symm)
      | (go_at_call 50; with_reducible refine (a1 _ HV.out).mono ?_; rintro e w' ⟨rfl, hw⟩; obtain rfl := hw.symm))
    go_ret
    exact ⟨rfl, _, rfl⟩
end Go.Proofs.Ytbcjbighipeafaa
