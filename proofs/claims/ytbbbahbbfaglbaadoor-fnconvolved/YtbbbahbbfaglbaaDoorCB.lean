/- FnConvolved: the draws. -/
import Derived.Test.YtbbbahbbfaglbaaDoorCA
namespace Go.Proofs.YtbbbahbbfaglbaaDoor
open Go.RowKit

theorem set_keep2 {w w1 : World} {c g : Nat} {v : Value} {a : Option Addr} {len cap : Nat} (h0 : Cu w c a len cap) (hk : Keep c w w1) (hc : Cu w1 c a len cap) (hB : w.heap.size ≤ g) (j : Nat) : Keep c w (w1.setCell ⟨g, j, none⟩ v) ∧ Cu (w1.setCell ⟨g, j, none⟩ v) c a len cap := by
  have hb : Below w.heap.size w1 (w1.setCell ⟨g, j, none⟩ v) := (Below.refl _ _).setCell hB _
  exact ⟨hk.below hb, h0.grow hc hk hb⟩

theorem ils_put2 (ys : Nat → Int) (x : Int) (n j : Nat) : (ils ys n).set j (.int .i64 x) = ils (fun i => if i = j then x else ys i) n := by
  unfold ils
  apply List.ext_getElem
  · simp
  · intro i h1 h2
    simp only [List.length_set, List.length_map, List.length_range] at h1
    rw [List.getElem_set]
    by_cases e : j = i
    · subst e
      simp
    · rw [if_neg e]
      simp [show ¬ i = j by omega]

set_option maxHeartbeats 8000000 in
theorem dtaps_x {w : World} {c : Nat} {a : Option Addr} {len cap : Nat} (m : Int) (hm : 0 ≤ m ∧ m ≤ 60) (h : Cu w c a len cap) :
    Calls Tryd.prog 30 #[.pointer (some ⟨c, 0, none⟩), .int .i64 m] w fun e w' => ∃ u n ys, e = .returned u ∧ n ≤ 61 ∧ w'.ownsRow w.heap.size 3 1 u n (ils ys n) ∧ Cu w' c a len cap ∧ Keep c w w' := by
  obtain ⟨i0, hi, hz0, hz1, hz2⟩ := info_parts Tryd.info3
  have HC1 : Hid (Cu w c a len cap) := h
  have HL1 : Hid (c < w.heap.size) := h.lt
  have HD : Hid (Cu (w.alloc (.cells #[] 3)) c a len cap) := h.call (below_one _ _)
  have P3 : ∀ W, Cu W c a len cap → Calls Tryd.prog 36 #[.pointer (some ⟨c, 0, none⟩), .slice (some ⟨W.heap.size, 0, none⟩) 3 3] (W.alloc (.cells #[.int .i64 1000000, .int .i64 (-1000000), .int .i64 999] 3)) fun e w' => ∃ x : Int, e = .returned (.int .i64 x) ∧ Cu w' c a len cap ∧ Keep c W w' := fun W hW => pick_lit [1000000, -1000000, 999] (by simp) (by simp) hW
  have P2 : ∀ W, Cu W c a len cap → Calls Tryd.prog 36 #[.pointer (some ⟨c, 0, none⟩), .slice (some ⟨W.heap.size, 0, none⟩) 2 2] (W.alloc (.cells #[.int .i64 1000001, .int .i64 (-1000001)] 3)) fun e w' => ∃ x : Int, e = .returned (.int .i64 x) ∧ Cu w' c a len cap ∧ Keep c W w' := fun W hW => pick_lit [1000001, -1000001] (by simp) (by simp) hW
  clear h
  go_enter Tryd.func30, Tryd.ntmps30
  go_wp2_with (go_at_call 32; refine (below_x HD.out (m + 1)).mono ?_; rintro e w2 ⟨j0, hj0, _, hj1, rfl, hc, hk⟩; have hj2 := hj1 (by omega); obtain ⟨N, rfl⟩ := Int.eq_ofNat_of_zero_le hj0; have HC2 : Hid (Cu w2 c a len cap) := hc; have K2 : Hid (Keep c (w.alloc (.cells #[] 3)) w2) := hk; clear hc hk hj1)
  go_loopw [5, 6] (fun o i wr => ∃ (j k : Nat), i = .int .i64 j ∧ j + k = N ∧ Hid ((∃ ys, wr.ownsRow w.heap.size 3 1 o k (ils ys k)) ∧ Cu wr c a len cap ∧ Keep c w wr)) (fun _ i _ => (intOf i).toNat)
  case atStart => exact ⟨N, 0, rfl, by omega, ⟨fun _ => 0, own_keep (own_empty w 3 1) K2.out HL1.out⟩, HC2.out, ((Keep.refl _ _).call (below_one _ _)).trans K2.out⟩
  case round =>
    obtain ⟨j, k, rfl, hjk, hcur⟩ := hrel
    by_cases h1 : 0 < j
    · obtain ⟨ys, ho⟩ := hcur.out.1
      have HO : Hid _ := ho
      clear ho
      go_wp2_with (first | (go_at_call 32; refine (below_x hcur.out.2.1 41).mono ?_; rintro e w6 ⟨x2, hx0, _, hx1, rfl, hc, hk⟩; have hx2 := hx1 (by omega); have hb3 := below_one w6 (.cells #[.int .i64 (x2 - 20)] 3); have HO3 := own_below (own_keep HO.out hk HL1.out) hb3; have K6 : Hid (Keep c w (w6.alloc (.cells #[.int .i64 (x2 - 20)] 3))) := (hcur.out.2.2.trans hk).call hb3; have HC6 : Hid (Cu (w6.alloc (.cells #[.int .i64 (x2 - 20)] 3)) c a len cap) := hc.call hb3; have hs3 := K6.out.size; clear hc hk hb3 hx1) | (at_builtin; refine wpList_append_own _ rfl _ _ 24 rfl w.heap.size 3 i0 (.int .i64 0) 1 8 Tryd.underlying24 hi hz0 hz1 hz2 rfl (by decide) _ _ _ rfl HO3 ⟨w6.heap.size, 0, none⟩ 1 1 [.int .i64 (x2 - 20)] rfl rfl (one_new _ _ _) (by simp [Value.oneCell']) (by unfold maxLen; omega) (by omega) hs3 ?_))
      intro v' w7 hown' hgrow _
      have HB4 : Below w.heap.size (w6.alloc (.cells #[.int .i64 (x2 - 20)] 3)) w7 := grown_below (Below.refl w.heap.size _) hs3 HO3 hgrow
      have HC7 : Hid (Cu w7 c a len cap) := HC1.out.grow HC6.out K6.out HB4
      have K7 : Hid (Keep c w w7) := K6.out.below HB4
      rw [ils_app] at hown'
      obtain ⟨zs, hzs⟩ : ∃ zs : Nat → Int, zs = fun i => if i = k then x2 - 20 else ys i := ⟨_, rfl⟩
      rw [← hzs] at hown'
      rcases hown'.2 with ⟨_, h0⟩ | ⟨g, cg, cur, ho1, hbg, hgg, hcc, hrest⟩
      · exfalso; omega
      subst ho1
      have HO4 : Hid (w7.ownsRow w.heap.size 3 1 (.slice (some ⟨g, 0, none⟩) (k + 1) cg) (k + 1) (ils zs (k + 1))) := hown'
      clear hown' hgrow HO3 HB4 hrest hgg hzs
      go_wp2_with (first
        | (go_at_call 17; refine (once_x HC7.out 20).mono ?_; rintro e w8 ⟨x8, rfl, hc, hk⟩; have HC8 : Hid (Cu w8 c a len cap) := hc; have K8 : Hid (Keep c w w8) := K7.out.trans hk; have HO8 : Hid (w8.ownsRow w.heap.size 3 1 (.slice (some ⟨g, 0, none⟩) (k + 1) cg) (k + 1) (ils zs (k + 1))) := own_keep HO4.out hk HL1.out; clear hc hk)
        | (go_at_call 36; refine (P3 _ HC8.out).mono ?_; rintro e w9 ⟨x9, rfl, hc, hk⟩; have ho9 := own_keep HO8.out hk HL1.out; have hce := ho9.cellAt k (by omega); rw [ils_get (by omega)] at hce; have hfz := ho9.frozenAt k; have hst := (ho9.stored k (.int .i64 x9)).1; rw [ils_put2] at hst; have HS : Hid _ := hst; have HC9 : Hid (Cu w9 c a len cap) := hc; have K9 : Hid (Keep c w w9) := K8.out.trans hk; clear hc hk ho9 hst))
      all_goals
        go_roundw
        case rel =>
          first
          | exact ⟨j - 1, k + 1, by go_num, by omega, ⟨_, HS.out⟩, (set_keep2 HC1.out K9.out HC9.out hbg k).2, (set_keep2 HC1.out K9.out HC9.out hbg k).1⟩
          | exact ⟨j - 1, k + 1, by go_num, by omega, ⟨_, HO8.out⟩, HC8.out, K8.out⟩
        case measure => simp [intOf]; omega
    · obtain rfl : j = 0 := by omega
      obtain ⟨ys, ho⟩ := hcur.out.1
      have HO : Hid _ := ho
      clear ho
      go_wp2_with (first
        | (go_at_call 17; refine (once_x hcur.out.2.1 40).mono ?_; rintro e w8 ⟨x8, rfl, hc, hk⟩; have HC8 : Hid (Cu w8 c a len cap) := hc; have K8 : Hid (Keep c w w8) := hcur.out.2.2.trans hk; have HO8 : Hid _ := own_keep HO.out hk HL1.out; clear hc hk)
        | (go_at_call 36; refine (P2 _ HC8.out).mono ?_; rintro e w6 ⟨x2, rfl, hc, hk⟩; have hb3 := below_one w6 (.cells #[.int .i64 x2] 3); have HO3 := own_below (own_keep HO8.out hk HL1.out) hb3; have K6 : Hid (Keep c w (w6.alloc (.cells #[.int .i64 x2] 3))) := (K8.out.trans hk).call hb3; have HC6 : Hid (Cu (w6.alloc (.cells #[.int .i64 x2] 3)) c a len cap) := hc.call hb3; have hs3 := K6.out.size; clear hc hk hb3)
        | (at_builtin; refine wpList_append_own _ rfl _ _ 24 rfl w.heap.size 3 i0 (.int .i64 0) 1 8 Tryd.underlying24 hi hz0 hz1 hz2 rfl (by decide) _ _ _ rfl HO3 ⟨w6.heap.size, 0, none⟩ 1 1 [.int .i64 x2] rfl rfl (one_new _ _ _) (by simp [Value.oneCell']) (by unfold maxLen; omega) (by omega) hs3 ?_; intro v' w7 hown' hgrow _; have HB4 : Below w.heap.size (w6.alloc (.cells #[.int .i64 x2] 3)) w7 := grown_below (Below.refl w.heap.size _) hs3 HO3 hgrow; have HC7 : Hid (Cu w7 c a len cap) := HC1.out.grow HC6.out K6.out HB4; have K7 : Hid (Keep c w w7) := K6.out.below HB4; rw [ils_app] at hown'; have HO4 : Hid _ := hown'; clear hown' hgrow HO3 HB4))
      all_goals
        go_ret
        first
        | exact ⟨_, _, _, rfl, by omega, HO4.out, HC7.out, K7.out⟩
        | exact ⟨_, _, _, rfl, by omega, HO8.out, HC8.out, K8.out⟩
end Go.Proofs.YtbbbahbbfaglbaaDoor
