/- A number shifted down. -/
import Derived.Test.YtbkkjbehmpmjeaaA1
namespace Go.Proofs.Ytbkkjbehmpmjeaa
open Go.RowKit

theorem floor_any (a b : Int) (ha : -4000000000000000000 ≤ a ∧ a ≤ 4000000000000000000) (hb : 1 ≤ b ∧ b ≤ 4000000000000000000) (w : World) : Calls Try.prog 25 #[.int .i64 a, .int .i64 b] w fun e w' => e = .returned (.int .i64 (a / b)) ∧ w' = w := by
  have hd := tdiv_bounds hb.1 ha.1 ha.2 (by decide)
  by_cases h : a.tmod b < 0
  · have E : Hid _ := (tdiv_neg hb.1 h).1
    go_enter Try.func25, Try.ntmps25
    go_wp2
    go_ret
    exact ret1 E.out rfl
  · have E : Hid _ := (tdiv_pos hb.1 h).1
    go_enter Try.func25, Try.ntmps25
    go_wp2
    go_ret
    exact ret1 E.out rfl

theorem two_bounds {b : Int} (hb : 0 ≤ b ∧ b ≤ 60) : 1 ≤ (2 : Int) ^ b.toNat ∧ (2 : Int) ^ b.toNat ≤ 1152921504606846976 := by
  have : ∀ k : Fin 61, 1 ≤ (2 : Int) ^ k.val ∧ (2 : Int) ^ k.val ≤ 1152921504606846976 := by decide +kernel
  exact this ⟨b.toNat, by omega⟩

/-- A number shifted down. -/
def shd (x b : Int) : Int := x / (2 : Int) ^ b.toNat

theorem isBig_yes {x : Int} (h : -4000000000000000000 ≤ x ∧ x ≤ 4000000000000000000) (w : World) : Calls Try.prog 49 #[.int .i64 x] w fun e w' => e = .returned (.bool true) ∧ w' = w := by
  obtain ⟨h1, h2⟩ := h
  go_enter Try.func49, Try.ntmps49
  go_wp2
  go_ret
  exact ⟨by simp, rfl⟩

theorem isCut_one (w : World) : Calls Try.prog 50 #[.int .i64 1] w fun e w' => e = .returned (.bool true) ∧ w' = w := by
  go_enter Try.func50, Try.ntmps50
  go_wp2
  go_ret
  exact ⟨rfl, rfl⟩

theorem sCut_one (w : World) : Calls Try.prog 24 #[.int .i64 1] w fun e w' => e = .returned (.bool true) ∧ w' = w := by
  have i1 := in_any 1 1 4
  rw [decide_eq_true (by omega)] at i1
  go_enter Try.func24, Try.ntmps24
  go_wp2_with (first | (go_at_call 17; (with_reducible refine (i1 _).mono ?_); rintro e w' ⟨rfl, hw⟩; obtain rfl := hw.symm))
  go_ret
  exact ⟨rfl, rfl⟩

theorem ups_one (q r m : Int) (w : World) : Calls Try.prog 51 #[.int .i64 1, .int .i64 q, .int .i64 r, .int .i64 m] w fun e w' => e = .returned (.bool false) ∧ w' = w := by
  go_enter Try.func51, Try.ntmps51
  go_wp2
  go_ret
  exact ⟨rfl, rfl⟩

set_option maxHeartbeats 1000000 in
theorem iShd {x b : Int} (hx : -4000000000000000000 ≤ x ∧ x ≤ 4000000000000000000) (hb : 0 ≤ b ∧ b ≤ 60) (w : World) : Calls Try.prog 47 #[.int .i64 x, .int .i64 b, .int .i64 1] w fun e w' => e = .returned (.int .i64 (shd x b)) ∧ w' = w := by
  have i1 := isBig_yes hx
  have i2 := isCut_one
  have D := two_bounds hb
  have h0 := ediv_bounds D.1 hx.1 hx.2 (by decide)
  have hr := sub_emod x ((2 : Int) ^ b.toNat)
  have r0 := Int.emod_nonneg x (show (2 : Int) ^ b.toNat ≠ 0 by omega)
  have r1 := Int.emod_lt_of_pos x (show 0 < (2 : Int) ^ b.toNat by omega)
  have hp : -9000000000000000000 ≤ x / (2 : Int) ^ b.toNat * (2 : Int) ^ b.toNat ∧ x / (2 : Int) ^ b.toNat * (2 : Int) ^ b.toNat ≤ 9000000000000000000 := by omega
  have i3 := ups_one (x / (2 : Int) ^ b.toNat) (x % (2 : Int) ^ b.toNat) ((2 : Int) ^ b.toNat - x % (2 : Int) ^ b.toNat)
  go_enter Try.func47, Try.ntmps47
  go_wp2_with (first | (go_at_call 49; (with_reducible refine (i1 _).mono ?_); rintro e w' ⟨rfl, hw⟩; obtain rfl := hw.symm) | (go_at_call 50; (with_reducible refine (i2 _).mono ?_); rintro e w' ⟨rfl, hw⟩; obtain rfl := hw.symm) | (go_at_call 51; (with_reducible refine (i3 _).mono ?_); rintro e w' ⟨rfl, hw⟩; obtain rfl := hw.symm))
  go_ret
  exact ⟨rfl, rfl⟩

set_option maxHeartbeats 1000000 in
theorem sShd {x b : Int} (hx : -4000000000000000000 ≤ x ∧ x ≤ 4000000000000000000) (hb : 0 ≤ b ∧ b ≤ 60) (w : World) : Calls Try.prog 19 #[.int .i64 x, .int .i64 b, .int .i64 1] w fun e w' => e = .returned (.int .i64 (shd x b)) ∧ w' = w := by
  have i1 := in_any x (-4000000000000000000) 4000000000000000000
  rw [decide_eq_true hx] at i1
  have i2 := in_any b 0 60
  rw [decide_eq_true hb] at i2
  have i3 := sCut_one
  have D := two_bounds hb
  have i4 := floor_any x ((2 : Int) ^ b.toNat) hx (by omega)
  have h0 := ediv_bounds D.1 hx.1 hx.2 (by decide)
  have hr := sub_emod x ((2 : Int) ^ b.toNat)
  have r0 := Int.emod_nonneg x (show (2 : Int) ^ b.toNat ≠ 0 by omega)
  have r1 := Int.emod_lt_of_pos x (show 0 < (2 : Int) ^ b.toNat by omega)
  have hp : -9000000000000000000 ≤ x / (2 : Int) ^ b.toNat * (2 : Int) ^ b.toNat ∧ x / (2 : Int) ^ b.toNat * (2 : Int) ^ b.toNat ≤ 9000000000000000000 := by omega
  have E : Hid (x / (2 : Int) ^ b.toNat = shd x b) := rfl
  generalize x % (2 : Int) ^ b.toNat = r at hr r0 r1
  generalize x / (2 : Int) ^ b.toNat = q at i4 h0 hr hp E
  go_enter Try.func19, Try.ntmps19
  go_wp2_with (first | (go_at_call 17; (with_reducible refine (i1 _).mono ?_); rintro e w' ⟨rfl, hw⟩; obtain rfl := hw.symm) | (go_at_call 17; (with_reducible refine (i2 _).mono ?_); rintro e w' ⟨rfl, hw⟩; obtain rfl := hw.symm) | (go_at_call 24; (with_reducible refine (i3 _).mono ?_); rintro e w' ⟨rfl, hw⟩; obtain rfl := hw.symm) | (go_at_call 25; (with_reducible refine (i4 _).mono ?_); rintro e w' ⟨rfl, hw⟩; obtain rfl := hw.symm))
  go_ret
  exact ret1 E.out rfl
end Go.Proofs.Ytbkkjbehmpmjeaa
