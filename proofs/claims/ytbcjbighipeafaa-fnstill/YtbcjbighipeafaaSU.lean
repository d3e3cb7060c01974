/- FnStill: the law. -/
import Derived.Test.YtbcjbighipeafaaST
namespace Go.Proofs.Ytbcjbighipeafaa
open Go.RowKit

set_option maxRecDepth 20000 in
set_option maxHeartbeats 8000000 in
theorem walk_still {w : World} {a : Option Addr} {len cap : Nat} (hr : Row w a len) (hn : len ≤ 9223372036854775807) : Calls Try.prog 4 #[.slice a len cap] w fun e w' => e = .returned (.bool true) ∧ Below w.heap.size w w' := by
  obtain ⟨i0, hi, hz0, hz1, hz2⟩ := info_parts Try.info3
  have ib := bigc_any (w := w) a len cap hn
  by_cases hl : len ≤ 1048576
  · rw [decide_eq_false (by omega)] at ib
    have HR : Hid (Row w a len) := hr
    clear hr
    go_enter Try.func4, Try.ntmps4
    go_wp2_with (first
      | (go_at_call 5; (with_reducible refine ib.mono ?_); rintro e w' ⟨rfl, hw⟩; obtain rfl := hw.symm)
      | (go_at_call 15; (fail_if_success have := l1); refine (atc_any HR.out hl 0 (by omega)).mono ?_; rintro e w' ⟨v1, rfl, l1, hw⟩; obtain rfl := hw.symm)
      | (go_at_call 15; refine (atc_any HR.out hl 1 (by omega)).mono ?_; rintro e w' ⟨v2, rfl, l2, hw⟩; obtain rfl := hw.symm))
    obtain ⟨n, hnn⟩ : ∃ n : Nat, 1 + (v1 : Int) % 60 = (n : Int) := ⟨1 + v1 % 60, by omega⟩
    obtain ⟨x, hxx⟩ : ∃ x : Int, (v2 : Int) * 100 - 12800 = x := ⟨_, rfl⟩
    have bn : 1 ≤ n ∧ n ≤ 60 := by omega
    have bx : -12800 ≤ x ∧ x ≤ 12700 := by omega
    rw [hnn, hxx]
    clear hnn hxx
    go_loopw [5, 6] (fun o i wr => ∃ k : Nat, i = .int .i64 k ∧ k ≤ n ∧ Hid (wr.ownsRow w.heap.size 3 1 o k (ils (fun _ => x) k) ∧ Below w.heap.size w wr)) (fun _ i _ => n - (intOf i).toNat)
    case atStart => exact ⟨0, rfl, by omega, own_empty w 3 1, below_one _ _⟩
    case round =>
      obtain ⟨k, rfl, hk, hrel⟩ := hrel
      by_cases h1 : k < n
      · have hb3 := below_one wr (.cells #[.int .i64 x] 3)
        have HO3 := own_below hrel.out.1 hb3
        have HB3 := bstep hrel.out.2 hb3
        clear hb3
        go_wp2_with (first | (at_builtin; refine wpList_append_own _ rfl _ _ 24 rfl w.heap.size 3 i0 (.int .i64 0) 1 8 Try.underlying24 hi hz0 hz1 hz2 rfl (by decide) _ _ _ rfl HO3 ⟨wr.heap.size, 0, none⟩ 1 1 [.int .i64 x] rfl rfl (one_new _ _ _) (by simp [Value.oneCell']) (by unfold maxLen; omega) (by omega) HB3.size ?_))
        intro v' w4 hown' hgrow _
        have HB4 : Hid _ := grown_below HB3 (Nat.le_refl _) HO3 hgrow
        have HO4 : Hid (w4.ownsRow w.heap.size 3 1 v' (k + 1) (ils (fun _ => x) (k + 1))) := by show w4.ownsRow w.heap.size 3 1 v' (k + 1) (ils (fun _ => x) (k + 1)); rw [ils_snoc]; exact hown'
        clear hown' hgrow HB3 HO3
        go_wp2
        go_roundw
        case rel => exact ⟨k + 1, by go_num, by omega, HO4.out, HB4.out⟩
        case measure => simp [intOf]; omega
      · obtain rfl : n = k := by omega
        have H1 : Hid _ := hrel.out.1
        have H2 : Hid _ := hrel.out.2
        obtain ⟨lao, lcap, hlv, hlc, _⟩ := il_of_own hrel.out.1
        clear hrel
        subst hlv
        have hs : Sig n (fun _ => x) := ⟨by omega, fun _ _ => ⟨by show -1000000000 ≤ x; omega, by show x ≤ 1000000000; omega⟩⟩
        obtain ⟨J, hJ⟩ := Stp.exists n 3
        have HJ : Hid (Stp n 3 J) := hJ
        have HS : Hid (Sig n (fun _ => x)) := hs
        clear hJ hs
        go_wp2
        go_loopw [7, 8, 9, 10, 11, 12] (fun kd _ _ _ _ _ W_ => ∃ q : Nat, kd = .int .i64 q ∧ 1 ≤ q ∧ q ≤ 4 ∧ Hid (W_.ownsRow w.heap.size 3 1 (.slice lao n lcap) n (ils (fun _ => x) n) ∧ Below w.heap.size w W_)) (fun kd _ _ _ _ _ _ => 4 - (intOf kd).toNat)
        case atStart => exact ⟨1, rfl, by omega, by omega, H1.out, H2.out⟩
        case round =>
          obtain ⟨q, rfl, hq1, hq4, hrel⟩ := hrel
          by_cases h3 : q < 4
          · have hk3 : Knd (q : Int) := by constructor <;> omega
            have i5 := iLift_good hk3 HS.out (L := 3) (by omega) HJ.out hrel.out.1
            change Calls Try.prog 10 #[.int .i64 (q : Int), .slice lao n lcap, .int .i64 3] wr _ at i5
            have YS : Hid (∀ i, i < n → stL (q : Int) n (fun _ => x) J i = if i < lnt n J then x else 0) := fun i hi2 => stL_still hk3 J i hi2
            have HR1 : Hid _ := hrel.out.1
            have HR2 : Hid _ := hrel.out.2
            clear hrel hk3
            go_wp2_with (first
              | (go_at_call 10; (with_reducible refine i5.mono ?_); rintro e w1 ⟨y, rfl, oy, by1⟩; obtain ⟨yao, ycap, hyv, hyc, hyl⟩ := il_of_own oy; have HYL : Hid _ := hyl; have HR3 : Hid _ := own_below HR1.out by1; have HR4 : Hid _ := bstep HR2.out by1; clear hyl oy by1; subst hyv))
            clear i5 HR1 HR2
            go_loopw [10, 11] (fun lo kk W_ => ∃ k : Nat, kk = .int .i64 k ∧ lo = .int .i64 (lnt n k : Int) ∧ k ≤ 3 ∧ W_ = w1 ∧ Hid (∀ i, i < k → 1 < lnt n i)) (fun _ kk _ => 3 - (intOf kk).toNat)
            case atStart => exact ⟨0, rfl, rfl, by omega, rfl, fun i hi2 => absurd hi2 (by omega)⟩
            case round =>
              obtain ⟨k, rfl, rfl, hk2, rfl, hall⟩ := hrel
              have hle := lnt_le n k
              by_cases h4 : k < 3
              · by_cases h5 : 1 < lnt n k
                · have ALL : Hid (∀ i, i < k + 1 → 1 < lnt n i) := fun i hi2 => by
                    by_cases hik : i < k
                    · exact hall.out i hik
                    · obtain rfl : i = k := by omega
                      exact h5
                  obtain ⟨A2, hA2⟩ : ∃ A2, Hid (lnt n (k + 1) = A2) := ⟨_, rfl⟩
                  have ea : ((lnt n k : Int) + 1) / 2 = (A2 : Int) := by
                    have : lnt n (k + 1) = (lnt n k + 1) / 2 := rfl
                    have := hA2.out
                    omega
                  generalize lnt n k = A at h5 hle ea ⊢
                  have EA : Hid _ := ea
                  clear ea
                  go_wp2
                  go_roundw
                  case rel => exact ⟨k + 1, by go_num, by rw [hA2.out]; exact congrArg (Value.int .i64) EA.out, by omega, by trivial, ALL.out⟩
                  case measure => simp [intOf]; omega
                · have hJk : J = k := HJ.out.uniq ⟨hk2, hall.out, .inr (by omega)⟩
                  have HJK : Hid (J = k) := hJk
                  clear hJk
                  go_wp2
                  go_loopw [12] (fun i W_ => ∃ q2 : Nat, i = .int .i64 q2 ∧ q2 ≤ n ∧ W_ = wr) (fun i _ => n - (intOf i).toNat)
                  case atStart => exact ⟨0, rfl, by omega, rfl⟩
                  case round =>
                    obtain ⟨q2, rfl, hq2, hwe⟩ := hrel
                    subst hwe
                    by_cases h6 : q2 < n
                    · obtain ⟨yb, yoff, rfl, _, hcell⟩ := HYL.out (by omega)
                      have c := hcell q2 h6
                      have ys := YS.out q2 h6
                      rw [HJK.out] at ys
                      clear hcell
                      by_cases h7 : q2 < lnt n k
                      · rw [if_pos h7] at ys
                        rw [HJK.out, ys] at c
                        clear ys
                        generalize lnt n k = A at h7 hle ⊢
                        go_wp2
                        go_roundw
                        case rel => exact ⟨q2 + 1, by go_num, by omega, by trivial⟩
                        case measure => simp [intOf]; omega
                      · rw [if_neg h7] at ys
                        rw [HJK.out, ys] at c
                        clear ys
                        generalize lnt n k = A at h7 hle ⊢
                        go_wp2
                        go_roundw
                        case rel => exact ⟨q2 + 1, by go_num, by omega, by trivial⟩
                        case measure => simp [intOf]; omega
                    · obtain rfl : n = q2 := by omega
                      go_wp2
                      go_roundw
                      case rel => exact ⟨q + 1, by go_num, by omega, by omega, HR3.out, HR4.out⟩
                      case measure => simp [intOf]; omega
              · have HJK : Hid (J = k) := HJ.out.uniq ⟨hk2, hall.out, .inl (by omega)⟩
                go_wp2
                go_loopw [12] (fun i W_ => ∃ q2 : Nat, i = .int .i64 q2 ∧ q2 ≤ n ∧ W_ = wr) (fun i _ => n - (intOf i).toNat)
                case atStart => exact ⟨0, rfl, by omega, rfl⟩
                case round =>
                  obtain ⟨q2, rfl, hq2, hwe⟩ := hrel
                  subst hwe
                  by_cases h6 : q2 < n
                  · obtain ⟨yb, yoff, rfl, _, hcell⟩ := HYL.out (by omega)
                    have c := hcell q2 h6
                    have ys := YS.out q2 h6
                    rw [HJK.out] at ys
                    clear hcell
                    by_cases h7 : q2 < lnt n k
                    · rw [if_pos h7] at ys
                      rw [HJK.out, ys] at c
                      clear ys
                      generalize lnt n k = A at h7 hle ⊢
                      go_wp2
                      go_roundw
                      case rel => exact ⟨q2 + 1, by go_num, by omega, by trivial⟩
                      case measure => simp [intOf]; omega
                    · rw [if_neg h7] at ys
                      rw [HJK.out, ys] at c
                      clear ys
                      generalize lnt n k = A at h7 hle ⊢
                      go_wp2
                      go_roundw
                      case rel => exact ⟨q2 + 1, by go_num, by omega, by trivial⟩
                      case measure => simp [intOf]; omega
                  · obtain rfl : n = q2 := by omega
                    go_wp2
                    go_roundw
                    case rel => exact ⟨q + 1, by go_num, by omega, by omega, HR3.out, HR4.out⟩
                    case measure => simp [intOf]; omega
          · obtain rfl : q = 4 := by omega
            have R : Hid _ := hrel.out.2
            clear hrel
            go_wp2
            go_ret
            exact ⟨rfl, R.out⟩
  · rw [decide_eq_true (by omega)] at ib
    clear hr
    go_enter Try.func4, Try.ntmps4
    go_wp2_with (first | (go_at_call 5; (with_reducible refine ib.mono ?_); rintro e w' ⟨rfl, hw⟩; obtain rfl := hw.symm))
    go_ret
    exact ⟨rfl, Below.refl _ _⟩
end Go.Proofs.Ytbcjbighipeafaa
