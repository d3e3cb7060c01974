/- FnWays: the law. -/
import Derived.Test.YtpfdicccbhhllaaWA
import Derived.Test.YtpfdicccbhhllaaD1
namespace Go.Proofs.Ytpfdicccbhhllaa
open Go.RowKit

theorem at_0 {w : World} {a : Option Addr} {n cap : Nat} (hr : Row w a n) (hn : n ≤ 1048576) : Calls Try.prog 5 #[.slice a n cap, .int .i64 0] w fun e w' => ∃ m : Int, (0 ≤ m ∧ m ≤ 255) ∧ e = .returned (.int .i64 m) ∧ w' = w := by
  by_cases h : 0 < n
  · obtain ⟨b, off, z, rfl, hb, hc, hz0, hz1⟩ := hr 0 h
    try rw [Nat.add_zero] at hc
    clear hr hb
    go_enter Try.func5, Try.ntmps5
    go_wp2
    go_ret
    exact ⟨z, by omega, rfl, rfl⟩
  · clear hr
    go_enter Try.func5, Try.ntmps5
    go_wp2
    go_ret
    exact ⟨(n : Int) % 256, by omega, rfl, rfl⟩

theorem at_1 {w : World} {a : Option Addr} {n cap : Nat} (hr : Row w a n) (hn : n ≤ 1048576) : Calls Try.prog 5 #[.slice a n cap, .int .i64 1] w fun e w' => ∃ m : Int, (0 ≤ m ∧ m ≤ 255) ∧ e = .returned (.int .i64 m) ∧ w' = w := by
  by_cases h : 1 < n
  · obtain ⟨b, off, z, rfl, hb, hc, hz0, hz1⟩ := hr 1 h
    try rw [Nat.add_zero] at hc
    clear hr hb
    go_enter Try.func5, Try.ntmps5
    go_wp2
    go_ret
    exact ⟨z, by omega, rfl, rfl⟩
  · clear hr
    go_enter Try.func5, Try.ntmps5
    go_wp2
    go_ret
    exact ⟨(7 + (n : Int)) % 256, by omega, rfl, rfl⟩


theorem wys_all (n : Nat) : wys n (-(n : Int)) = 2 ^ n := by
  rw [← row_sum n]
  refine sg_congr fun j hj => ?_
  show (if -(n : Int) ≤ (n : Int) - 2 * (j : Int) then cb n j else 0) = cb n j
  rw [if_pos (by omega)]

theorem wys_both (n : Nat) (t : Int) : wys n t + wys n (1 - t) = 2 ^ n := by
  rw [← sv_wys n (1 - t), ← row_sum n]
  unfold wys wv sv
  rw [← sg_add]
  refine sg_congr fun j hj => ?_
  show (if t ≤ (n : Int) - 2 * (j : Int) then cb n j else 0) + (if 1 - t ≤ 2 * (j : Int) - (n : Int) then cb n j else 0) = cb n j
  by_cases h : t ≤ (n : Int) - 2 * (j : Int)
  · rw [if_pos h, if_neg (by omega)]; omega
  · rw [if_neg h, if_pos (by omega)]; omega

set_option maxHeartbeats 4000000 in
theorem walk_ways {w : World} {a : Option Addr} {len cap : Nat} (hr : Row w a len) (hlen : len ≤ 9223372036854775807) :
    Calls Try.prog 3 #[.slice a len cap] w fun e w' => e = .returned (.bool true) ∧ Below w.heap.size w w' := by
  have ib := big_x (w := w) a len cap hlen
  by_cases hl : len ≤ 1048576
  · rw [decide_eq_false (by omega)] at ib
    have j0 := at_0 (cap := cap) hr hl
    have j1 := at_1 (cap := cap) hr hl
    clear hr
    go_enter Try.func3, Try.ntmps3
    go_upto_region 5 with (first
      | (go_at_call 4; (with_reducible refine ib.mono ?_); rintro e w' ⟨rfl, hw⟩; obtain rfl := hw.symm)
      | (go_at_call 5; (with_reducible refine j0.mono ?_); rintro e w' ⟨m0, hm0, rfl, hw⟩; obtain rfl := hw.symm)
      | (go_at_call 5; (with_reducible refine j1.mono ?_); rintro e w' ⟨m1, hm1, rfl, hw⟩; obtain rfl := hw.symm))
    clear ib j0 j1
    generalize hn : m0 % 61 = n0 at *
    obtain ⟨n, rfl⟩ : ∃ n : Nat, n0 = (n : Int) := ⟨n0.toNat, by omega⟩
    have hn60 : n ≤ 60 := by omega
    generalize ht : m1 % 70 - 3 = t at *
    have ht1 : -3 ≤ t ∧ t ≤ 66 := by omega
    clear hn ht hm0 hm1
    have h2 := two60 hn60
    have i0 := iWays_good n (-(n : Int)) hn60 (by omega)
    have i1 := iWays_good n (1 - t) hn60 (by omega)
    have i2 := iWays_good n t hn60 (by omega)
    have i3 := sWays_good n t hn60 (by omega)
    have hb := wys_both n t
    rw [wys_all] at i0
    generalize wys n (1 - t) = V1 at *
    generalize wys n t = V2 at *
    obtain ⟨E, hE⟩ : ∃ E : Nat, E = 2 ^ n := ⟨_, rfl⟩
    have e1 : (2 : Int) ^ n = (E : Int) := by rw [hE, Int.natCast_pow]; rfl
    rw [← hE] at i0 h2 hb
    clear hE
    have e2 : (E : Int) - (V1 : Int) = (V2 : Int) := by omega
    have hv : V1 ≤ E ∧ V2 ≤ E := by omega
    clear hb
    go_wp2_with (first
      | (go_at_call 6; (with_reducible refine (i0 _).mono ?_); rintro e w' ⟨rfl, hw⟩; obtain rfl := hw.symm)
      | (go_at_call 6; (with_reducible refine (i1 _).mono ?_); rintro e w' ⟨rfl, hw⟩; obtain rfl := hw.symm)
      | (go_at_call 6; (with_reducible refine (i2 _).mono ?_); rintro e w' ⟨rfl, hw⟩; obtain rfl := hw.symm)
      | (go_at_call 7; (with_reducible refine (i3 _).mono ?_); rintro e w1 ⟨rfl, hb⟩; have HB : Hid (Below w.heap.size w w1) := hb; clear hb))
    go_ret
    exact ⟨rfl, HB.out⟩
  · rw [decide_eq_true (by omega)] at ib
    clear hr
    go_enter Try.func3, Try.ntmps3
    go_wp2_with (first
      | (go_at_call 4; (with_reducible refine ib.mono ?_); rintro e w' ⟨rfl, hw⟩; obtain rfl := hw.symm))
    go_ret
    exact ⟨rfl, Below.refl _ _⟩
end Go.Proofs.Ytpfdicccbhhllaa
