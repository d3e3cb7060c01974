/- FnWalshTwice: the draw. -/
import Derived.Test.YtfmllgohmlocoaaD4
import Derived.Test.YtfmllgohmlocoaaW3
namespace Go.Proofs.Ytfmllgohmlocoaa
open Go.RowKit

theorem pow32 {j : Nat} (h : j < 6) : ∃ P : Nat, (2 : Int) ^ j = P ∧ 1 ≤ P ∧ P ≤ 32 := by
  have : j = 0 ∨ j = 1 ∨ j = 2 ∨ j = 3 ∨ j = 4 ∨ j = 5 := by omega
  rcases this with rfl | rfl | rfl | rfl | rfl | rfl
  · exact ⟨1, rfl, by omega, by omega⟩
  · exact ⟨2, rfl, by omega, by omega⟩
  · exact ⟨4, rfl, by omega, by omega⟩
  · exact ⟨8, rfl, by omega, by omega⟩
  · exact ⟨16, rfl, by omega, by omega⟩
  · exact ⟨32, rfl, by omega, by omega⟩

set_option maxHeartbeats 4000000 in
theorem dwalsh_x {w : World} {a : Option Addr} {len cap : Nat} (hr : Row w a len) (hl : len ≤ 1048576) :
    Calls Try.prog 6 #[.slice a len cap] w fun e w' => ∃ u n ys, e = .returned u ∧ n ≤ 61 ∧ w'.ownsRow w.heap.size 3 1 u n (ils ys n) ∧ Below w.heap.size w w' := by
  obtain ⟨i0, hi, hz0, hz1, hz2⟩ := info_parts Try.info3
  have HR : Hid (Row w a len) := hr
  clear hr
  obtain ⟨c, hcd⟩ : ∃ c, w.heap.size = c := ⟨_, rfl⟩
  have HN : Hid (Calls Try.prog 17 #[.slice a len cap] w fun e w' => e = .returned (.pointer (some ⟨c, 0, none⟩)) ∧ Cu w' c a len cap ∧ Below w.heap.size w w') := by have := new_x (cap := cap) HR.out (by omega); rw [← hcd]; exact this
  go_enter Try.func6, Try.ntmps6
  go_wp2_with (first
    | (go_at_call 17; refine HN.out.mono ?_; rintro e w1 ⟨rfl, hc, hb⟩; have HC1 : Hid (Cu w1 c a len cap) := hc; have HD : Hid (Cu (w1.alloc (.cells #[] 3)) c a len cap) := hc.call (below_one _ _); have B1 : Hid (Below w.heap.size w w1) := hb; have HL1 : Hid (c < w1.heap.size) := hc.lt; clear hc hb)
    | (go_at_call 19; refine (size_x a len cap 5 hl).mono ?_; rintro e w' ⟨z, rfl, hz5, _, hz6, hw⟩; obtain rfl := hw.symm; have hz7 := hz6 (by omega); clear hz6)
    | (go_at_call 18; (fail_if_success have := M1); refine (below_x HD.out (1 + z)).mono ?_; rintro e w2 ⟨j0, hj0, _, hj1, rfl, hc, hk⟩; have M1 : Hid True := trivial; have hj2 := hj1 (by omega); obtain ⟨j, rfl⟩ := Int.eq_ofNat_of_zero_le hj0; obtain ⟨P, hP, hP1, hP2⟩ := pow32 (j := j) (by omega); have HC2 : Hid (Cu w2 c a len cap) := hc; have K2 : Hid (Keep c (w1.alloc (.cells #[] 3)) w2) := hk; clear hc hk hj1)
    | (go_at_call 20; refine (once_x HC2.out 15).mono ?_; rintro e w3 ⟨x3, rfl, hc, hk⟩; have HC3 : Hid (Cu w3 c a len cap) := hc; have K3 : Hid (Keep c (w1.alloc (.cells #[] 3)) w3) := K2.out.trans hk; clear hc hk)
    | (go_at_call 18; have Z := M1; refine (below_x HC3.out 9).mono ?_; rintro e w4 ⟨y0, hy0, _, hy1, rfl, hc, hk⟩; have hy2 := hy1 (by omega); obtain ⟨y, rfl⟩ := Int.eq_ofNat_of_zero_le hy0; have HC4 : Hid (Cu w4 c a len cap) := hc; have K4 : Hid (Keep c (w1.alloc (.cells #[] 3)) w4) := K3.out.trans hk; clear hc hk hy1))
  · go_loopw [4, 6] (fun o i wr => ∃ (k : Nat), i = .int .i64 k ∧ k ≤ y ∧ Hid ((∃ ys, wr.ownsRow w1.heap.size 3 1 o k (ils ys k)) ∧ Cu wr c a len cap ∧ Keep c w1 wr)) (fun _ i _ => y - (intOf i).toNat)
    case atStart => exact ⟨0, rfl, by omega, ⟨fun _ => 0, own_keep (own_empty w1 3 1) K4.out HL1.out⟩, HC4.out, ((Keep.refl _ _).call (below_one _ _)).trans K4.out⟩
    case round =>
      obtain ⟨k, rfl, hk0, hcur⟩ := hrel
      by_cases h1 : k < y
      · obtain ⟨ys, ho⟩ := hcur.out.1
        have HO : Hid _ := ho
        clear ho
        go_wp2_with (first | (go_at_call 21; refine (dsample_x hcur.out.2.1).mono ?_; rintro e w5 ⟨x2, rfl, hc, hk⟩; have hb3 := below_one w5 (.cells #[.int .i64 x2] 3); have HO3 := own_below (own_keep HO.out hk HL1.out) hb3; have K5 : Hid (Keep c w1 (w5.alloc (.cells #[.int .i64 x2] 3))) := (hcur.out.2.2.trans hk).call hb3; have HC5 : Hid (Cu (w5.alloc (.cells #[.int .i64 x2] 3)) c a len cap) := hc.call hb3; have hs3 := K5.out.size; clear hc hk hb3) | (at_builtin; refine wpList_append_own _ rfl _ _ 24 rfl w1.heap.size 3 i0 (.int .i64 0) 1 8 Try.underlying24 hi hz0 hz1 hz2 rfl (by decide) _ _ _ rfl HO3 ⟨w5.heap.size, 0, none⟩ 1 1 [.int .i64 x2] rfl rfl (one_new _ _ _) (by simp [Value.oneCell']) (by unfold maxLen; omega) (by omega) hs3 ?_))
        intro v' w6 hown' hgrow _
        have HB4 : Hid (Below w1.heap.size (w5.alloc (.cells #[.int .i64 x2] 3)) w6) := grown_below (Below.refl w1.heap.size _) hs3 HO3 hgrow
        rw [ils_app] at hown'
        have HO4 : Hid _ := hown'
        clear hown' hgrow HO3
        go_wp2
        go_roundw
        case rel => exact ⟨k + 1, by go_num, by omega, ⟨_, HO4.out⟩, HC1.out.grow HC5.out K5.out HB4.out, K5.out.below HB4.out⟩
        case measure => simp [intOf]; omega
      · obtain ⟨ys, ho⟩ := hcur.out.1
        have HO : Hid _ := ho
        clear ho
        go_wp2
        go_ret
        first | exact ⟨_, k, ys, rfl, by omega, own_base HO.out B1.out.size, Below.keep B1.out hcur.out.2.2 (Nat.le_of_eq hcd)⟩ | exact ⟨_, rfl, k, by omega, ⟨ys, by rw [← hcd]; exact own_base HO.out B1.out.size⟩, by rw [← hcd]; exact Below.keep B1.out hcur.out.2.2 (Nat.le_of_eq hcd)⟩
  · have hx3 : x3 = false := by first | assumption | simp_all
    subst hx3
    go_loopw [4, 6] (fun o i wr => ∃ (k : Nat), i = .int .i64 k ∧ k ≤ P ∧ Hid ((∃ ys, wr.ownsRow w1.heap.size 3 1 o k (ils ys k)) ∧ Cu wr c a len cap ∧ Keep c w1 wr)) (fun _ i _ => P - (intOf i).toNat)
    case atStart => exact ⟨0, rfl, by omega, ⟨fun _ => 0, own_keep (own_empty w1 3 1) K3.out HL1.out⟩, HC3.out, ((Keep.refl _ _).call (below_one _ _)).trans K3.out⟩
    case round =>
      obtain ⟨k, rfl, hk0, hcur⟩ := hrel
      by_cases h1 : k < P
      · obtain ⟨ys, ho⟩ := hcur.out.1
        have HO : Hid _ := ho
        clear ho
        go_wp2_with (first | (go_at_call 21; refine (dsample_x hcur.out.2.1).mono ?_; rintro e w5 ⟨x2, rfl, hc, hk⟩; have hb3 := below_one w5 (.cells #[.int .i64 x2] 3); have HO3 := own_below (own_keep HO.out hk HL1.out) hb3; have K5 : Hid (Keep c w1 (w5.alloc (.cells #[.int .i64 x2] 3))) := (hcur.out.2.2.trans hk).call hb3; have HC5 : Hid (Cu (w5.alloc (.cells #[.int .i64 x2] 3)) c a len cap) := hc.call hb3; have hs3 := K5.out.size; clear hc hk hb3) | (at_builtin; refine wpList_append_own _ rfl _ _ 24 rfl w1.heap.size 3 i0 (.int .i64 0) 1 8 Try.underlying24 hi hz0 hz1 hz2 rfl (by decide) _ _ _ rfl HO3 ⟨w5.heap.size, 0, none⟩ 1 1 [.int .i64 x2] rfl rfl (one_new _ _ _) (by simp [Value.oneCell']) (by unfold maxLen; omega) (by omega) hs3 ?_))
        intro v' w6 hown' hgrow _
        have HB4 : Hid (Below w1.heap.size (w5.alloc (.cells #[.int .i64 x2] 3)) w6) := grown_below (Below.refl w1.heap.size _) hs3 HO3 hgrow
        rw [ils_app] at hown'
        have HO4 : Hid _ := hown'
        clear hown' hgrow HO3
        go_wp2
        go_roundw
        case rel => exact ⟨k + 1, by go_num, by omega, ⟨_, HO4.out⟩, HC1.out.grow HC5.out K5.out HB4.out, K5.out.below HB4.out⟩
        case measure => simp [intOf]; omega
      · obtain ⟨ys, ho⟩ := hcur.out.1
        have HO : Hid _ := ho
        clear ho
        go_wp2
        go_ret
        first | exact ⟨_, k, ys, rfl, by omega, own_base HO.out B1.out.size, Below.keep B1.out hcur.out.2.2 (Nat.le_of_eq hcd)⟩ | exact ⟨_, rfl, k, by omega, ⟨ys, by rw [← hcd]; exact own_base HO.out B1.out.size⟩, by rw [← hcd]; exact Below.keep B1.out hcur.out.2.2 (Nat.le_of_eq hcd)⟩
end Go.Proofs.Ytfmllgohmlocoaa
