/- Together: the program and the model. -/
import Derived.Test.YtacenbapmelncaaDoorT1
import Derived.Test.YtacenbapmelncaaDoorQM3
namespace Go.Proofs.YtacenbapmelncaaDoor
open Go.RowKit

theorem big_any (x : Int) (w : World) : Calls Tryd.prog 16 #[.int .i64 x] w fun e w' => e = .returned (.bool (decide (-4000000000000000000 ≤ x ∧ x ≤ 4000000000000000000))) ∧ w' = w := by
  by_cases h1 : -4000000000000000000 ≤ x
  · by_cases h2 : x ≤ 4000000000000000000
    · rw [decide_eq_true ⟨h1, h2⟩]
      exact isBig_yes ⟨h1, h2⟩ w
    · rw [decide_eq_false (fun h => h2 h.2)]
      go_enter Tryd.func16, Tryd.ntmps16
      go_wp2
      go_ret
      exact ⟨by simp, rfl⟩
  · rw [decide_eq_false (fun h => h1 h.1)]
    go_enter Tryd.func16, Tryd.ntmps16
    go_wp2
    go_ret
    exact ⟨by simp, rfl⟩

theorem tmV_bounds {x st r p : Int} (hp : 1 ≤ p) : 0 ≤ tmV x st r p ∧ tmV x st r p < p := ⟨Int.emod_nonneg _ (by omega), Int.emod_lt_of_pos _ (by omega)⟩

/-- What both sides answer, by the two counts. -/
def Tgs (x1 z R : Int) : Prop := (z ≤ 234881024 → R = if x1 + 167477612308856833 * z ≤ 4000000000000000000 then x1 + 167477612308856833 * z else 0) ∧ (234881024 < z → R = if -4000000000000000000 ≤ x1 + 167477612308856833 * (z - 469762049) then x1 + 167477612308856833 * (z - 469762049) else 0)

theorem tgs_ex (x1 z : Int) : ∃ R, Tgs x1 z R := by
  by_cases h : z ≤ 234881024
  · exact ⟨_, fun _ => rfl, fun h2 => by omega⟩
  · exact ⟨_, fun h2 => by omega, fun _ => rfl⟩

set_option maxHeartbeats 8000000 in
theorem iTog_yes {a b c R : Int} (ba : 0 ≤ a ∧ a < 998244353) (bb : 0 ≤ b ∧ b < 167772161) (bc : 0 ≤ c ∧ c < 469762049)
    (hR : Tgs (a + 998244353 * tmV a 998244353 b 167772161) (tmV (a + 998244353 * tmV a 998244353 b 167772161) 167477612308856833 c 469762049) R) {w : World} (hs : Prs w) :
    Calls Tryd.prog 5 #[.int .i64 a, .int .i64 b, .int .i64 c] w fun e w' => e = .returned (.int .i64 R) ∧ w' = w := by
  have pB : Prm 167772161 := .inr (.inl rfl)
  have pC : Prm 469762049 := .inr (.inr rfl)
  have by0 := tmV_bounds (x := a) (st := 998244353) (r := b) (p := 167772161) (by omega)
  obtain ⟨y, hy⟩ : ∃ y, tmV a 998244353 b 167772161 = y := ⟨_, rfl⟩
  rw [hy] at hR by0
  obtain ⟨x1, hx1⟩ : ∃ x1, x1 = a + 998244353 * y := ⟨_, rfl⟩
  rw [← hx1] at hR
  have bx : 0 ≤ x1 ∧ x1 < 167477612308856833 := by omega
  have i1 := tm_any (x := a) (st := 998244353) (r := b) pB (by omega) (by omega) bb hs
  have i2 := tm_any (x := x1) (st := 167477612308856833) (r := c) pC (by omega) (by omega) bc hs
  have bz := tmV_bounds (x := x1) (st := 167477612308856833) (r := c) (p := 469762049) (by omega)
  obtain ⟨z, hz⟩ : ∃ z, tmV x1 167477612308856833 c 469762049 = z := ⟨_, rfl⟩
  rw [hy] at i1
  rw [hz] at i2 hR bz
  have r1 := fun W => iRes_any a 998244353 (by omega) W
  have r2 := fun W => iRes_any b 167772161 (by omega) W
  have r3 := fun W => iRes_any c 469762049 (by omega) W
  rw [decide_eq_true (show 0 ≤ a ∧ a ≤ 998244353 - 1 by omega)] at r1
  rw [decide_eq_true (show 0 ≤ b ∧ b ≤ 167772161 - 1 by omega)] at r2
  rw [decide_eq_true (show 0 ≤ c ∧ c ≤ 469762049 - 1 by omega)] at r3
  obtain ⟨c0, c1, c2⟩ := hs
  obtain ⟨d0, d1, d2⟩ := idx43 a b c w
  have HX1 : Hid (x1 = a + 998244353 * y) := hx1
  have HR : Hid (Tgs x1 z R) := hR
  clear hx1 hz hy hR pB pC
  go_enter Tryd.func5, Tryd.ntmps5
  go_wp2
  go_loopw [7, 8, 15] (fun _ _ i wr => ∃ k : Nat, i = .int .i64 k ∧ k ≤ 3 ∧ wr = w) (fun _ _ i _ => 3 - (intOf i).toNat)
  case atStart => exact ⟨0, rfl, by omega, rfl⟩
  case round =>
    obtain ⟨k, rfl, hk, hw⟩ := hrel
    obtain rfl := hw.symm
    have : k = 0 ∨ k = 1 ∨ k = 2 ∨ k = 3 := by omega
    rcases this with rfl | rfl | rfl | rfl
    · go_wp2_with (go_at_call 14; (with_reducible refine (r1 _).mono ?_); rintro e w' ⟨rfl, hw⟩; obtain rfl := hw.symm)
      go_roundw
      case rel => exact ⟨1, rfl, by omega, by trivial⟩
      case measure => simp [intOf]
    · go_wp2_with (go_at_call 14; (with_reducible refine (r2 _).mono ?_); rintro e w' ⟨rfl, hw⟩; obtain rfl := hw.symm)
      go_roundw
      case rel => exact ⟨2, rfl, by omega, by trivial⟩
      case measure => simp [intOf]
    · go_wp2_with (go_at_call 14; (with_reducible refine (r3 _).mono ?_); rintro e w' ⟨rfl, hw⟩; obtain rfl := hw.symm)
      go_roundw
      case rel => exact ⟨3, rfl, by omega, by trivial⟩
      case measure => simp [intOf]
    · have e5 : 998244353 * y = x1 - a := by have := HX1.out; omega
      have e5b : a + (x1 - a) = x1 := by omega
      clear r1 r2 r3
      by_cases h1 : z ≤ 234881024
      · have hR1 := HR.out.1 h1
        by_cases h2 : z ≤ 24
        · obtain ⟨X, hX⟩ : ∃ X, x1 + 167477612308856833 * z = X := ⟨_, rfl⟩
          rw [hX] at hR1
          have i3 := big_any X
          by_cases h3 : X ≤ 4000000000000000000
          · rw [if_pos h3] at hR1
            subst hR1
            rw [decide_eq_true ⟨by omega, h3⟩] at i3
            go_wp2_with (first | (go_at_call 15; (with_reducible refine (i1).mono ?_); rintro e w' ⟨rfl, hw⟩; obtain rfl := hw.symm) | (go_at_call 15; (with_reducible refine (i2).mono ?_); rintro e w' ⟨rfl, hw⟩; obtain rfl := hw.symm) | (go_at_call 16; (with_reducible refine (i3 _).mono ?_); rintro e w' ⟨rfl, hw⟩; obtain rfl := hw.symm))
            go_ret
            exact ⟨rfl, rfl⟩
          · rw [if_neg h3] at hR1
            subst hR1
            rw [decide_eq_false (fun h => h3 h.2)] at i3
            go_wp2_with (first | (go_at_call 15; (with_reducible refine (i1).mono ?_); rintro e w' ⟨rfl, hw⟩; obtain rfl := hw.symm) | (go_at_call 15; (with_reducible refine (i2).mono ?_); rintro e w' ⟨rfl, hw⟩; obtain rfl := hw.symm) | (go_at_call 16; (with_reducible refine (i3 _).mono ?_); rintro e w' ⟨rfl, hw⟩; obtain rfl := hw.symm))
            go_ret
            exact ⟨rfl, rfl⟩
        · rw [if_neg (by omega)] at hR1
          subst hR1
          go_wp2_with (first | (go_at_call 15; (with_reducible refine (i1).mono ?_); rintro e w' ⟨rfl, hw⟩; obtain rfl := hw.symm) | (go_at_call 15; (with_reducible refine (i2).mono ?_); rintro e w' ⟨rfl, hw⟩; obtain rfl := hw.symm))
          go_ret
          exact ⟨rfl, rfl⟩
      · have hR1 := HR.out.2 (by omega)
        obtain ⟨q, hq⟩ : ∃ q, z - 469762049 = q := ⟨_, rfl⟩
        rw [hq] at hR1
        by_cases h2 : -24 ≤ q
        · obtain ⟨X, hX⟩ : ∃ X, x1 + 167477612308856833 * q = X := ⟨_, rfl⟩
          rw [hX] at hR1
          have i3 := big_any X
          by_cases h3 : -4000000000000000000 ≤ X
          · rw [if_pos h3] at hR1
            subst hR1
            rw [decide_eq_true ⟨h3, by omega⟩] at i3
            go_wp2_with (first | (go_at_call 15; (with_reducible refine (i1).mono ?_); rintro e w' ⟨rfl, hw⟩; obtain rfl := hw.symm) | (go_at_call 15; (with_reducible refine (i2).mono ?_); rintro e w' ⟨rfl, hw⟩; obtain rfl := hw.symm) | (go_at_call 16; (with_reducible refine (i3 _).mono ?_); rintro e w' ⟨rfl, hw⟩; obtain rfl := hw.symm))
            go_ret
            exact ⟨rfl, rfl⟩
          · rw [if_neg h3] at hR1
            subst hR1
            rw [decide_eq_false (fun h => h3 h.1)] at i3
            go_wp2_with (first | (go_at_call 15; (with_reducible refine (i1).mono ?_); rintro e w' ⟨rfl, hw⟩; obtain rfl := hw.symm) | (go_at_call 15; (with_reducible refine (i2).mono ?_); rintro e w' ⟨rfl, hw⟩; obtain rfl := hw.symm) | (go_at_call 16; (with_reducible refine (i3 _).mono ?_); rintro e w' ⟨rfl, hw⟩; obtain rfl := hw.symm))
            go_ret
            exact ⟨rfl, rfl⟩
        · rw [if_neg (by omega)] at hR1
          subst hR1
          go_wp2_with (first | (go_at_call 15; (with_reducible refine (i1).mono ?_); rintro e w' ⟨rfl, hw⟩; obtain rfl := hw.symm) | (go_at_call 15; (with_reducible refine (i2).mono ?_); rintro e w' ⟨rfl, hw⟩; obtain rfl := hw.symm))
          go_ret
          exact ⟨rfl, rfl⟩

set_option maxHeartbeats 4000000 in
theorem iTog_no {a b c : Int} (hbad : ¬ ((0 ≤ a ∧ a ≤ 998244353 - 1) ∧ (0 ≤ b ∧ b ≤ 167772161 - 1) ∧ (0 ≤ c ∧ c ≤ 469762049 - 1))) {w : World} (hs : Prs w) :
    Calls Tryd.prog 5 #[.int .i64 a, .int .i64 b, .int .i64 c] w fun e w' => e = .returned (.int .i64 0) ∧ w' = w := by
  have r1 := fun W => iRes_any a 998244353 (by omega) W
  have r2 := fun W => iRes_any b 167772161 (by omega) W
  have r3 := fun W => iRes_any c 469762049 (by omega) W
  obtain ⟨ta, hta⟩ : ∃ t, t = decide (0 ≤ a ∧ a ≤ 998244353 - 1) := ⟨_, rfl⟩
  obtain ⟨tb, htb⟩ : ∃ t, t = decide (0 ≤ b ∧ b ≤ 167772161 - 1) := ⟨_, rfl⟩
  obtain ⟨tc, htc⟩ : ∃ t, t = decide (0 ≤ c ∧ c ≤ 469762049 - 1) := ⟨_, rfl⟩
  rw [← hta] at r1
  rw [← htb] at r2
  rw [← htc] at r3
  have hall : ¬ (ta = true ∧ tb = true ∧ tc = true) := fun ⟨h1, h2, h3⟩ => hbad ⟨of_decide_eq_true (hta.symm.trans h1), of_decide_eq_true (htb.symm.trans h2), of_decide_eq_true (htc.symm.trans h3)⟩
  clear hta htb htc hbad
  obtain ⟨c0, c1, c2⟩ := hs
  obtain ⟨d0, d1, d2⟩ := idx43 a b c w
  go_enter Tryd.func5, Tryd.ntmps5
  go_wp2
  go_loopw [7, 8, 15] (fun _ _ i wr => ∃ k : Nat, i = .int .i64 k ∧ k ≤ 2 ∧ wr = w ∧ Hid ((1 ≤ k → ta = true) ∧ (2 ≤ k → tb = true))) (fun _ _ i _ => 3 - (intOf i).toNat)
  case atStart => exact ⟨0, rfl, by omega, rfl, fun h => by omega, fun h => by omega⟩
  case round =>
    obtain ⟨k, rfl, hk, hw, hal⟩ := hrel
    obtain rfl := hw.symm
    have : k = 0 ∨ k = 1 ∨ k = 2 := by omega
    rcases this with rfl | rfl | rfl
    · cases ta
      · clear hall hal
        go_wp2_with (go_at_call 14; (with_reducible refine (r1 _).mono ?_); rintro e w' ⟨rfl, hw⟩; obtain rfl := hw.symm)
        go_ret
        exact ⟨rfl, rfl⟩
      · clear hall hal
        go_wp2_with (go_at_call 14; (with_reducible refine (r1 _).mono ?_); rintro e w' ⟨rfl, hw⟩; obtain rfl := hw.symm)
        go_roundw
        case rel => exact ⟨1, rfl, by omega, by trivial, fun _ => by trivial, fun h => by omega⟩
        case measure => simp [intOf]
    · have ht := hal.out.1 (by omega)
      subst ht
      cases tb
      · clear hall hal
        go_wp2_with (go_at_call 14; (with_reducible refine (r2 _).mono ?_); rintro e w' ⟨rfl, hw⟩; obtain rfl := hw.symm)
        go_ret
        exact ⟨rfl, rfl⟩
      · clear hall hal
        go_wp2_with (go_at_call 14; (with_reducible refine (r2 _).mono ?_); rintro e w' ⟨rfl, hw⟩; obtain rfl := hw.symm)
        go_roundw
        case rel => exact ⟨2, rfl, by omega, by trivial, fun _ => by trivial, fun _ => by trivial⟩
        case measure => simp [intOf]
    · have ht := hal.out.1 (by omega)
      have ht2 := hal.out.2 (by omega)
      subst ht ht2
      cases tc
      · clear hall hal
        go_wp2_with (go_at_call 14; (with_reducible refine (r3 _).mono ?_); rintro e w' ⟨rfl, hw⟩; obtain rfl := hw.symm)
        go_ret
        exact ⟨rfl, rfl⟩
      · exact absurd ⟨rfl, rfl, rfl⟩ hall
end Go.Proofs.YtacenbapmelncaaDoor
