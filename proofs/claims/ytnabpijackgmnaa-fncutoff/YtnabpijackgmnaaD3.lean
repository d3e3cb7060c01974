/- FnCutOff. -/
import Derived.Test.YtnabpijackgmnaaD2
import Derived.Test.YtnabpijackgmnaaA4
namespace Go.Proofs.Ytnabpijackgmnaa
open Go.RowKit

set_option maxHeartbeats 2000000 in
theorem dshift_x {w : World} {a : Option Addr} {len cap : Nat} (hr : Row w a len) (hl : len ≤ 1048576) :
    Calls Try.prog 12 #[.slice a len cap] w fun e w' => ∃ x y z : Int, e = .returned (.tuple #[.int .i64 x, .int .i64 y, .int .i64 z]) ∧ Below w.heap.size w w' := by
  have HR : Hid (Row w a len) := hr
  clear hr
  obtain ⟨c, hcd⟩ : ∃ c, w.heap.size = c := ⟨_, rfl⟩
  have HN : Hid (Calls Try.prog 29 #[.slice a len cap] w fun e w' => e = .returned (.pointer (some ⟨c, 0, none⟩)) ∧ Cu w' c a len cap ∧ Below w.heap.size w w') := by have := new_x (cap := cap) HR.out (by omega); rw [← hcd]; exact this
  go_enter Try.func12, Try.ntmps12
  go_wp2_with (first
    | (go_at_call 29; refine HN.out.mono ?_; rintro e w1 ⟨rfl, hc, hb⟩; have HC1 : Hid (Cu w1 c a len cap) := hc; have B1 : Hid (Below w.heap.size w w1) := hb; clear hc hb)
    | (go_at_call 30; refine (dbig_x HC1.out).mono ?_; rintro e w2 ⟨x2, rfl, hc, hk⟩; have HC2 : Hid (Cu w2 c a len cap) := hc; have K2 : Hid (Keep c w1 w2) := hk; clear hc hk)
    | (go_at_call 32; (fail_if_success have := M3); (with_reducible refine (below_x HC2.out 63).mono ?_); rintro e w3 ⟨x3, _, _, _, rfl, hc, hk⟩; have M3 : Hid True := trivial; have HC3 : Hid (Cu w3 c a len cap) := hc; have K3 : Hid (Keep c w1 w3) := K2.out.trans hk; clear hc hk)
    | (go_at_call 31; refine (once_x HC3.out 2).mono ?_; rintro e w4 ⟨x4, rfl, hc, hk⟩; have M4 : Hid True := trivial; have HC3 : Hid (Cu w4 c a len cap) := hc; have K3 : Hid (Keep c w1 w4) := K3.out.trans hk; clear hc hk)
    | (go_at_call 32; (with_reducible refine (below_x HC3.out 4).mono ?_); rintro e w5 ⟨x5, _, _, _, rfl, hc, hk⟩; have HC3 : Hid (Cu w5 c a len cap) := hc; have K3 : Hid (Keep c w1 w5) := K3.out.trans hk; clear hc hk)
    | (go_at_call 32; (with_reducible refine (below_x HC3.out 100).mono ?_); rintro e w6 ⟨x6, _, _, _, rfl, hc, hk⟩; have HC3 : Hid (Cu w6 c a len cap) := hc; have K3 : Hid (Keep c w1 w6) := K3.out.trans hk; clear hc hk)
    | (go_at_call 32; (with_reducible refine (below_x HC3.out 24).mono ?_); rintro e w7 ⟨x7, _, _, _, rfl, hc, hk⟩; have HC3 : Hid (Cu w7 c a len cap) := hc; have K3 : Hid (Keep c w1 w7) := K3.out.trans hk; clear hc hk))
  all_goals
    go_ret3
    exact ⟨_, _, _, rfl, Below.keep B1.out K3.out (Nat.le_of_eq hcd)⟩

theorem abs_x (r A : Int) (h : (r < 0 ∧ A = -r ∧ A ≤ 9223372036854775807) ∨ (0 ≤ r ∧ A = r)) (w : World) : Calls Try.prog 14 #[.int .i64 r] w fun e w' => e = .returned (.int .i64 A) ∧ w' = w := by
  rcases h with ⟨h, rfl, h2⟩ | ⟨h, rfl⟩
  · go_enter Try.func14, Try.ntmps14
    go_wp2
    go_ret
    exact ⟨rfl, rfl⟩
  · go_enter Try.func14, Try.ntmps14
    go_wp2
    go_ret
    exact ⟨rfl, rfl⟩

theorem shV_514 : shV 5 1 4 = 2 := by decide +kernel
theorem shV_713 : shV 7 1 3 = 4 := by decide +kernel

theorem even_next {q : Int} (h : ¬ q.tmod 2 = 0) : (q + 1).tmod 2 = 0 := by
  have h1 : ¬ q % 2 = 0 := fun e => h (by have := Int.tmod_eq_zero_of_dvd (a := 2) (b := q) (Int.dvd_of_emod_eq_zero e); exact this)
  exact Int.tmod_eq_zero_of_dvd (Int.dvd_of_emod_eq_zero (by omega))

set_option maxRecDepth 50000 in
set_option maxHeartbeats 4000000 in
theorem walk_cutoff {w : World} {a : Option Addr} {n cap : Nat} (hr : Row w a n) (hn : n ≤ 9223372036854775807) : Calls Try.prog 4 #[.slice a n cap] w fun e w' => e = .returned (.bool true) ∧ Below w.heap.size w w' := by
  have hz := fun W => big_x (w := W) a n cap hn
  by_cases h : n ≤ 1048576
  · rw [decide_eq_false (show ¬ (1048576 : Int) < (n : Int) by omega)] at hz
    have hd := dshift_x (cap := cap) hr h
    have i3 := iShift_any 5 1 4
    have i4 := iShift_any 7 1 3
    rw [shV_514] at i3
    rw [shV_713] at i4
    clear hr
    go_enter Try.func4, Try.ntmps4
    go_upto_region 4 with (first | (go_at_call 8; (with_reducible refine (hz _).mono ?_); rintro e w' ⟨rfl, hw⟩; obtain rfl := hw.symm) | (go_at_call 12; refine hd.mono ?_; rintro e w1 ⟨x, b, cc, rfl, hb1⟩; have B1 : Hid (Below w.heap.size w w1) := hb1; clear hb1))
    by_cases hb : 0 ≤ b ∧ b ≤ 60
    · by_cases hx : -4000000000000000000 ≤ x ∧ x ≤ 4000000000000000000
      · have D := two_bounds hb
        go_wp2
        go_loopw [7, 8, 9, 10] (fun ct _ _ _ wr => ∃ k : Int, ct = .int .i64 k ∧ 1 ≤ k ∧ k ≤ 5 ∧ wr = w1) (fun ct _ _ _ _ => 5 - (intOf ct).toNat)
        case atStart => exact ⟨1, rfl, by omega, by omega, rfl⟩
        case round =>
          obtain ⟨k, rfl, hk1, hk2, hwr⟩ := hrel
          obtain rfl := hwr.symm
          by_cases h5 : k = 5
          · subst h5
            go_wp2_with (first | (go_at_call 13; (with_reducible refine (i4 _).mono ?_); rintro e w' ⟨rfl, hw⟩; obtain rfl := hw.symm))
            go_ret
            exact ⟨rfl, B1.out⟩
          · clear i3 i4
            have h0 := ediv_bounds D.1 hx.1 hx.2 (by decide)
            have hrr := sub_emod x ((2 : Int) ^ b.toNat)
            have hlo := Int.emod_nonneg x (show (2 : Int) ^ b.toNat ≠ 0 by omega)
            have hhi := Int.emod_lt_of_pos x (show 0 < (2 : Int) ^ b.toNat by omega)
            have hq0 : 0 ≤ x → 0 ≤ x / (2 : Int) ^ b.toNat := fun h => Int.ediv_nonneg h (by omega)
            have hq1 : x < 0 → x / (2 : Int) ^ b.toNat < 0 := fun h => Int.ediv_neg_of_neg_of_pos h (by omega)
            obtain rfl | rfl | rfl | rfl : k = 1 ∨ k = 2 ∨ k = 3 ∨ k = 4 := by omega
            · have hu : ¬ upB 1 (x / (2 : Int) ^ b.toNat) (x % (2 : Int) ^ b.toNat) ((2 : Int) ^ b.toNat - x % (2 : Int) ^ b.toNat) = true := by simp [upB]
              have hS : shV x b 1 = x / (2 : Int) ^ b.toNat := by rw [← shV_yes hx hb (by omega)]; unfold shv; rw [if_neg hu]
              obtain ⟨S, r, A, m, fS, hr, hp0, hp1, fr, fA, hm⟩ : ∃ S r A m : Int, x / (2 : Int) ^ b.toNat = S ∧ x - S * (2 : Int) ^ b.toNat = r ∧ -9000000000000000000 ≤ S * (2 : Int) ^ b.toNat ∧ S * (2 : Int) ^ b.toNat ≤ 9000000000000000000 ∧ r = x % (2 : Int) ^ b.toNat ∧ A = r ∧ (2 : Int) ^ b.toNat - A = m := ⟨_, _, _, _, rfl, rfl, by omega, by omega, by omega, rfl, rfl⟩
              have b3 : 0 ≤ r := by omega
              have i1 := iShift_any x b 1
              rw [hS, fS] at i1
              have i2 := abs_x r A (by omega)
              have b1 : A < (2 : Int) ^ b.toNat := by omega
              have b2 : 0 ≤ A := by omega
              have b6 : -1152921504606846976 ≤ r ∧ r ≤ 1152921504606846976 := by omega
              clear hS fS fr fA hq0 hq1 hu hrr hlo hhi h0 
              go_wp2_with (first | (go_at_call 13; (with_reducible refine (i1 _).mono ?_); rintro e w' ⟨rfl, hw⟩; obtain rfl := hw.symm) | (go_at_call 14; (with_reducible refine (i2 _).mono ?_); rintro e w' ⟨rfl, hw⟩; obtain rfl := hw.symm))
              go_roundw
              case rel => exact ⟨2, by go_num, by omega, by omega, by trivial⟩
              case measure => simp [intOf]
            · by_cases hu : upB 2 (x / (2 : Int) ^ b.toNat) (x % (2 : Int) ^ b.toNat) ((2 : Int) ^ b.toNat - x % (2 : Int) ^ b.toNat) = true
              · have hv : x / (2 : Int) ^ b.toNat < 0 ∧ 0 < x % (2 : Int) ^ b.toNat := by simpa [upB] using hu
                have hS : shV x b 2 = x / (2 : Int) ^ b.toNat + 1 := by rw [← shV_yes hx hb (by omega)]; unfold shv; rw [if_pos hu]
                have e2 : (x / (2 : Int) ^ b.toNat + 1) * (2 : Int) ^ b.toNat = x / (2 : Int) ^ b.toNat * (2 : Int) ^ b.toNat + (2 : Int) ^ b.toNat := by grind
                obtain ⟨S, r, A, m, fS, hr, hp0, hp1, fr, fA, hm⟩ : ∃ S r A m : Int, x / (2 : Int) ^ b.toNat + 1 = S ∧ x - S * (2 : Int) ^ b.toNat = r ∧ -9000000000000000000 ≤ S * (2 : Int) ^ b.toNat ∧ S * (2 : Int) ^ b.toNat ≤ 9000000000000000000 ∧ r = x % (2 : Int) ^ b.toNat - (2 : Int) ^ b.toNat ∧ A = -r ∧ (2 : Int) ^ b.toNat - A = m := ⟨_, _, _, _, rfl, rfl, by omega, by omega, by omega, rfl, rfl⟩
                have b3 : r < 0 := by omega
                have b4 : x < 0 := by omega
                have i1 := iShift_any x b 2
                rw [hS, fS] at i1
                have i2 := abs_x r A (by omega)
                have b1 : A < (2 : Int) ^ b.toNat := by omega
                have b2 : 0 ≤ A := by omega
                have b6 : -1152921504606846976 ≤ r ∧ r ≤ 1152921504606846976 := by omega
                clear hS fS fr fA hq0 hq1 hu hrr hlo hhi h0 hv e2
                go_wp2_with (first | (go_at_call 13; (with_reducible refine (i1 _).mono ?_); rintro e w' ⟨rfl, hw⟩; obtain rfl := hw.symm) | (go_at_call 14; (with_reducible refine (i2 _).mono ?_); rintro e w' ⟨rfl, hw⟩; obtain rfl := hw.symm))
                go_roundw
                case rel => exact ⟨3, by go_num, by omega, by omega, by trivial⟩
                case measure => simp [intOf]
              · have hv : ¬ (x / (2 : Int) ^ b.toNat < 0 ∧ 0 < x % (2 : Int) ^ b.toNat) := by simpa [upB] using hu
                have hS : shV x b 2 = x / (2 : Int) ^ b.toNat := by rw [← shV_yes hx hb (by omega)]; unfold shv; rw [if_neg hu]
                obtain ⟨S, r, A, m, fS, hr, hp0, hp1, fr, fA, hm⟩ : ∃ S r A m : Int, x / (2 : Int) ^ b.toNat = S ∧ x - S * (2 : Int) ^ b.toNat = r ∧ -9000000000000000000 ≤ S * (2 : Int) ^ b.toNat ∧ S * (2 : Int) ^ b.toNat ≤ 9000000000000000000 ∧ r = x % (2 : Int) ^ b.toNat ∧ A = r ∧ (2 : Int) ^ b.toNat - A = m := ⟨_, _, _, _, rfl, rfl, by omega, by omega, by omega, rfl, rfl⟩
                have b3 : 0 ≤ r := by omega
                have hc : r = 0 ∨ 0 ≤ x := by omega
                have i1 := iShift_any x b 2
                rw [hS, fS] at i1
                have i2 := abs_x r A (by omega)
                have b1 : A < (2 : Int) ^ b.toNat := by omega
                have b2 : 0 ≤ A := by omega
                have b6 : -1152921504606846976 ≤ r ∧ r ≤ 1152921504606846976 := by omega
                clear hS fS fr fA hq0 hq1 hu hrr hlo hhi h0 hv
                rcases hc with hc | hc
                · have b5 : ¬ 0 < r := by omega
                  clear hc
                  go_wp2_with (first | (go_at_call 13; (with_reducible refine (i1 _).mono ?_); rintro e w' ⟨rfl, hw⟩; obtain rfl := hw.symm) | (go_at_call 14; (with_reducible refine (i2 _).mono ?_); rintro e w' ⟨rfl, hw⟩; obtain rfl := hw.symm))
                  go_roundw
                  case rel => exact ⟨3, by go_num, by omega, by omega, by trivial⟩
                  case measure => simp [intOf]
                · by_cases b5 : 0 < r
                  · skip
                    go_wp2_with (first | (go_at_call 13; (with_reducible refine (i1 _).mono ?_); rintro e w' ⟨rfl, hw⟩; obtain rfl := hw.symm) | (go_at_call 14; (with_reducible refine (i2 _).mono ?_); rintro e w' ⟨rfl, hw⟩; obtain rfl := hw.symm))
                    go_roundw
                    case rel => exact ⟨3, by go_num, by omega, by omega, by trivial⟩
                    case measure => simp [intOf]
                  · skip
                    go_wp2_with (first | (go_at_call 13; (with_reducible refine (i1 _).mono ?_); rintro e w' ⟨rfl, hw⟩; obtain rfl := hw.symm) | (go_at_call 14; (with_reducible refine (i2 _).mono ?_); rintro e w' ⟨rfl, hw⟩; obtain rfl := hw.symm))
                    go_roundw
                    case rel => exact ⟨3, by go_num, by omega, by omega, by trivial⟩
                    case measure => simp [intOf]
            · by_cases hu : upB 3 (x / (2 : Int) ^ b.toNat) (x % (2 : Int) ^ b.toNat) ((2 : Int) ^ b.toNat - x % (2 : Int) ^ b.toNat) = true
              · have hv : (2 : Int) ^ b.toNat - x % (2 : Int) ^ b.toNat ≤ x % (2 : Int) ^ b.toNat := by simpa [upB] using hu
                have hS : shV x b 3 = x / (2 : Int) ^ b.toNat + 1 := by rw [← shV_yes hx hb (by omega)]; unfold shv; rw [if_pos hu]
                have e2 : (x / (2 : Int) ^ b.toNat + 1) * (2 : Int) ^ b.toNat = x / (2 : Int) ^ b.toNat * (2 : Int) ^ b.toNat + (2 : Int) ^ b.toNat := by grind
                obtain ⟨S, r, A, m, fS, hr, hp0, hp1, fr, fA, hm⟩ : ∃ S r A m : Int, x / (2 : Int) ^ b.toNat + 1 = S ∧ x - S * (2 : Int) ^ b.toNat = r ∧ -9000000000000000000 ≤ S * (2 : Int) ^ b.toNat ∧ S * (2 : Int) ^ b.toNat ≤ 9000000000000000000 ∧ r = x % (2 : Int) ^ b.toNat - (2 : Int) ^ b.toNat ∧ A = -r ∧ (2 : Int) ^ b.toNat - A = m := ⟨_, _, _, _, rfl, rfl, by omega, by omega, by omega, rfl, rfl⟩
                have b3 : r < 0 := by omega
                have b4 : A ≤ m := by omega
                have i1 := iShift_any x b 3
                rw [hS, fS] at i1
                have i2 := abs_x r A (by omega)
                have b1 : A < (2 : Int) ^ b.toNat := by omega
                have b2 : 0 ≤ A := by omega
                have b6 : -1152921504606846976 ≤ r ∧ r ≤ 1152921504606846976 := by omega
                clear hS fS fr fA hq0 hq1 hu hrr hlo hhi h0 hv e2
                by_cases hh : A = m
                · subst hh
                  go_wp2_with (first | (go_at_call 13; (with_reducible refine (i1 _).mono ?_); rintro e w' ⟨rfl, hw⟩; obtain rfl := hw.symm) | (go_at_call 14; (with_reducible refine (i2 _).mono ?_); rintro e w' ⟨rfl, hw⟩; obtain rfl := hw.symm))
                  go_roundw
                  case rel => exact ⟨4, by go_num, by omega, by omega, by trivial⟩
                  case measure => simp [intOf]
                · skip
                  go_wp2_with (first | (go_at_call 13; (with_reducible refine (i1 _).mono ?_); rintro e w' ⟨rfl, hw⟩; obtain rfl := hw.symm) | (go_at_call 14; (with_reducible refine (i2 _).mono ?_); rintro e w' ⟨rfl, hw⟩; obtain rfl := hw.symm))
                  go_roundw
                  case rel => exact ⟨4, by go_num, by omega, by omega, by trivial⟩
                  case measure => simp [intOf]
              · have hv : ¬ (2 : Int) ^ b.toNat - x % (2 : Int) ^ b.toNat ≤ x % (2 : Int) ^ b.toNat := by simpa [upB] using hu
                have hS : shV x b 3 = x / (2 : Int) ^ b.toNat := by rw [← shV_yes hx hb (by omega)]; unfold shv; rw [if_neg hu]
                obtain ⟨S, r, A, m, fS, hr, hp0, hp1, fr, fA, hm⟩ : ∃ S r A m : Int, x / (2 : Int) ^ b.toNat = S ∧ x - S * (2 : Int) ^ b.toNat = r ∧ -9000000000000000000 ≤ S * (2 : Int) ^ b.toNat ∧ S * (2 : Int) ^ b.toNat ≤ 9000000000000000000 ∧ r = x % (2 : Int) ^ b.toNat ∧ A = r ∧ (2 : Int) ^ b.toNat - A = m := ⟨_, _, _, _, rfl, rfl, by omega, by omega, by omega, rfl, rfl⟩
                have b3 : 0 ≤ r := by omega
                have b4 : A < m := by omega
                have b5 : ¬ A = m := by omega
                have i1 := iShift_any x b 3
                rw [hS, fS] at i1
                have i2 := abs_x r A (by omega)
                have b1 : A < (2 : Int) ^ b.toNat := by omega
                have b2 : 0 ≤ A := by omega
                have b6 : -1152921504606846976 ≤ r ∧ r ≤ 1152921504606846976 := by omega
                clear hS fS fr fA hq0 hq1 hu hrr hlo hhi h0 hv
                go_wp2_with (first | (go_at_call 13; (with_reducible refine (i1 _).mono ?_); rintro e w' ⟨rfl, hw⟩; obtain rfl := hw.symm) | (go_at_call 14; (with_reducible refine (i2 _).mono ?_); rintro e w' ⟨rfl, hw⟩; obtain rfl := hw.symm))
                go_roundw
                case rel => exact ⟨4, by go_num, by omega, by omega, by trivial⟩
                case measure => simp [intOf]
            · by_cases hu : upB 4 (x / (2 : Int) ^ b.toNat) (x % (2 : Int) ^ b.toNat) ((2 : Int) ^ b.toNat - x % (2 : Int) ^ b.toNat) = true
              · have hv : (2 : Int) ^ b.toNat - x % (2 : Int) ^ b.toNat < x % (2 : Int) ^ b.toNat ∨ (x % (2 : Int) ^ b.toNat = (2 : Int) ^ b.toNat - x % (2 : Int) ^ b.toNat ∧ ¬ (x / (2 : Int) ^ b.toNat).tmod 2 = 0) := by simpa [upB] using hu
                have hS : shV x b 4 = x / (2 : Int) ^ b.toNat + 1 := by rw [← shV_yes hx hb (by omega)]; unfold shv; rw [if_pos hu]
                have e2 : (x / (2 : Int) ^ b.toNat + 1) * (2 : Int) ^ b.toNat = x / (2 : Int) ^ b.toNat * (2 : Int) ^ b.toNat + (2 : Int) ^ b.toNat := by grind
                obtain ⟨S, r, A, m, fS, hr, hp0, hp1, fr, fA, hm⟩ : ∃ S r A m : Int, x / (2 : Int) ^ b.toNat + 1 = S ∧ x - S * (2 : Int) ^ b.toNat = r ∧ -9000000000000000000 ≤ S * (2 : Int) ^ b.toNat ∧ S * (2 : Int) ^ b.toNat ≤ 9000000000000000000 ∧ r = x % (2 : Int) ^ b.toNat - (2 : Int) ^ b.toNat ∧ A = -r ∧ (2 : Int) ^ b.toNat - A = m := ⟨_, _, _, _, rfl, rfl, by omega, by omega, by omega, rfl, rfl⟩
                have hw : A < m ∨ (A = m ∧ S.tmod 2 = 0) := by
                  rcases hv with hv | ⟨hv, hv2⟩
                  · exact .inl (by omega)
                  · exact .inr ⟨by omega, by rw [← fS]; exact even_next hv2⟩
                have b3 : r < 0 := by omega
                have i1 := iShift_any x b 4
                rw [hS, fS] at i1
                have i2 := abs_x r A (by omega)
                have b1 : A < (2 : Int) ^ b.toNat := by omega
                have b2 : 0 ≤ A := by omega
                have b6 : -1152921504606846976 ≤ r ∧ r ≤ 1152921504606846976 := by omega
                clear hS fS fr fA hq0 hq1 hu hrr hlo hhi h0 hv e2
                rcases hw with hw | ⟨hw, hw2⟩
                · have b5 : ¬ A = m := by omega
                  go_wp2_with (first | (go_at_call 13; (with_reducible refine (i1 _).mono ?_); rintro e w' ⟨rfl, hw⟩; obtain rfl := hw.symm) | (go_at_call 14; (with_reducible refine (i2 _).mono ?_); rintro e w' ⟨rfl, hw⟩; obtain rfl := hw.symm))
                  go_roundw
                  case rel => exact ⟨5, by go_num, by omega, by omega, by trivial⟩
                  case measure => simp [intOf]
                · subst hw
                  go_wp2_with (first | (go_at_call 13; (with_reducible refine (i1 _).mono ?_); rintro e w' ⟨rfl, hw⟩; obtain rfl := hw.symm) | (go_at_call 14; (with_reducible refine (i2 _).mono ?_); rintro e w' ⟨rfl, hw⟩; obtain rfl := hw.symm))
                  go_roundw
                  case rel => exact ⟨5, by go_num, by omega, by omega, by trivial⟩
                  case measure => simp [intOf]
              · have hv : ¬ ((2 : Int) ^ b.toNat - x % (2 : Int) ^ b.toNat < x % (2 : Int) ^ b.toNat ∨ (x % (2 : Int) ^ b.toNat = (2 : Int) ^ b.toNat - x % (2 : Int) ^ b.toNat ∧ ¬ (x / (2 : Int) ^ b.toNat).tmod 2 = 0)) := by simpa [upB] using hu
                have hS : shV x b 4 = x / (2 : Int) ^ b.toNat := by rw [← shV_yes hx hb (by omega)]; unfold shv; rw [if_neg hu]
                obtain ⟨S, r, A, m, fS, hr, hp0, hp1, fr, fA, hm⟩ : ∃ S r A m : Int, x / (2 : Int) ^ b.toNat = S ∧ x - S * (2 : Int) ^ b.toNat = r ∧ -9000000000000000000 ≤ S * (2 : Int) ^ b.toNat ∧ S * (2 : Int) ^ b.toNat ≤ 9000000000000000000 ∧ r = x % (2 : Int) ^ b.toNat ∧ A = r ∧ (2 : Int) ^ b.toNat - A = m := ⟨_, _, _, _, rfl, rfl, by omega, by omega, by omega, rfl, rfl⟩
                have hw : A < m ∨ (A = m ∧ S.tmod 2 = 0) := by
                  by_cases hE : A = m
                  · exact .inr ⟨hE, by rw [← fS]; by_cases hT : (x / (2 : Int) ^ b.toNat).tmod 2 = 0; exact hT; exact absurd (.inr ⟨by omega, hT⟩) hv⟩
                  · exact .inl (by have : ¬ ((2 : Int) ^ b.toNat - x % (2 : Int) ^ b.toNat < x % (2 : Int) ^ b.toNat) := fun h => hv (.inl h); omega)
                have b3 : 0 ≤ r := by omega
                have i1 := iShift_any x b 4
                rw [hS, fS] at i1
                have i2 := abs_x r A (by omega)
                have b1 : A < (2 : Int) ^ b.toNat := by omega
                have b2 : 0 ≤ A := by omega
                have b6 : -1152921504606846976 ≤ r ∧ r ≤ 1152921504606846976 := by omega
                clear hS fS fr fA hq0 hq1 hu hrr hlo hhi h0 hv
                rcases hw with hw | ⟨hw, hw2⟩
                · have b5 : ¬ A = m := by omega
                  go_wp2_with (first | (go_at_call 13; (with_reducible refine (i1 _).mono ?_); rintro e w' ⟨rfl, hw⟩; obtain rfl := hw.symm) | (go_at_call 14; (with_reducible refine (i2 _).mono ?_); rintro e w' ⟨rfl, hw⟩; obtain rfl := hw.symm))
                  go_roundw
                  case rel => exact ⟨5, by go_num, by omega, by omega, by trivial⟩
                  case measure => simp [intOf]
                · subst hw
                  go_wp2_with (first | (go_at_call 13; (with_reducible refine (i1 _).mono ?_); rintro e w' ⟨rfl, hw⟩; obtain rfl := hw.symm) | (go_at_call 14; (with_reducible refine (i2 _).mono ?_); rintro e w' ⟨rfl, hw⟩; obtain rfl := hw.symm))
                  go_roundw
                  case rel => exact ⟨5, by go_num, by omega, by omega, by trivial⟩
                  case measure => simp [intOf]
      · have e1 : 0 = shV x b 1 := shV_no (fun h => hx h.1)
        have i1 := iShift_any x b 1
        rw [← e1] at i1
        have hx' : x < -4000000000000000000 ∨ 4000000000000000000 < x := by omega
        clear e1 hx
        rcases hx' with hx | hx
        · go_wp2_with (first | (go_at_call 13; (with_reducible refine (i1 _).mono ?_); rintro e w' ⟨rfl, hw⟩; obtain rfl := hw.symm) | (go_at_call 13; (with_reducible refine (i3 _).mono ?_); rintro e w' ⟨rfl, hw⟩; obtain rfl := hw.symm))
          go_ret
          exact ⟨rfl, B1.out⟩
        · go_wp2_with (first | (go_at_call 13; (with_reducible refine (i1 _).mono ?_); rintro e w' ⟨rfl, hw⟩; obtain rfl := hw.symm) | (go_at_call 13; (with_reducible refine (i3 _).mono ?_); rintro e w' ⟨rfl, hw⟩; obtain rfl := hw.symm))
          go_ret
          exact ⟨rfl, B1.out⟩
    · have e1 : 0 = shV x b 1 := shV_no (fun h => hb h.2.1)
      have i1 := iShift_any x b 1
      rw [← e1] at i1
      have hb' : b < 0 ∨ 60 < b := by omega
      clear e1 hb
      rcases hb' with hb | hb
      · go_wp2_with (first | (go_at_call 13; (with_reducible refine (i1 _).mono ?_); rintro e w' ⟨rfl, hw⟩; obtain rfl := hw.symm) | (go_at_call 13; (with_reducible refine (i3 _).mono ?_); rintro e w' ⟨rfl, hw⟩; obtain rfl := hw.symm))
        go_ret
        exact ⟨rfl, B1.out⟩
      · go_wp2_with (first | (go_at_call 13; (with_reducible refine (i1 _).mono ?_); rintro e w' ⟨rfl, hw⟩; obtain rfl := hw.symm) | (go_at_call 13; (with_reducible refine (i3 _).mono ?_); rintro e w' ⟨rfl, hw⟩; obtain rfl := hw.symm))
        go_ret
        exact ⟨rfl, B1.out⟩
  · rw [decide_eq_true (show (1048576 : Int) < (n : Int) by omega)] at hz
    go_enter Try.func4, Try.ntmps4
    go_wp2_with (go_at_call 8; (with_reducible refine (hz _).mono ?_); rintro e w' ⟨rfl, hw⟩; obtain rfl := hw.symm)
    go_ret
    exact ⟨rfl, Below.refl _ _⟩
end Go.Proofs.Ytnabpijackgmnaa
