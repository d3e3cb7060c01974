/- FnDftBack: the draw. -/
import Derived.Test.YtbbbahbbfaglbaaDoorD3
import Derived.Test.YtbbbahbbfaglbaaDoorD4
namespace Go.Proofs.YtbbbahbbfaglbaaDoor
open Go.RowKit

theorem pow32 {j : Nat} (h : j < 6) : ∃ P : Nat, (2 : Int) ^ j = P ∧ 1 ≤ P ∧ P ≤ 32 := by
  have : j = 0 ∨ j = 1 ∨ j = 2 ∨ j = 3 ∨ j = 4 ∨ j = 5 := by omega
  rcases this with rfl | rfl | rfl | rfl | rfl | rfl
  · exact ⟨1, rfl, by omega, by omega⟩
  · exact ⟨2, rfl, by omega, by omega⟩
  · exact ⟨4, rfl, by omega, by omega⟩
  · exact ⟨8, rfl, by omega, by omega⟩
  · exact ⟨16, rfl, by omega, by omega⟩
  · exact ⟨32, rfl, by omega, by omega⟩

theorem set_keep {w w1 : World} {c g : Nat} {v : Value} {a : Option Addr} {len cap : Nat} (h0 : Cu w c a len cap) (hk : Keep c w w1) (hc : Cu w1 c a len cap) (hB : w.heap.size ≤ g) (j : Nat) : Keep c w (w1.setCell ⟨g, j, none⟩ v) ∧ Cu (w1.setCell ⟨g, j, none⟩ v) c a len cap := by
  have hb : Below w.heap.size w1 (w1.setCell ⟨g, j, none⟩ v) := (Below.refl _ _).setCell hB _
  exact ⟨hk.below hb, h0.grow hc hk hb⟩

theorem ils_first (ys : Nat → Int) (x : Int) (n : Nat) : (ils ys n).set 0 (.int .i64 x) = ils (fun i => if i = 0 then x else ys i) n := by
  cases n with
  | zero => rfl
  | succ m =>
    unfold ils
    apply List.ext_getElem
    · simp
    · intro i h1 h2
      simp only [List.length_set, List.length_map, List.length_range] at h1
      rcases i with _ | i
      · simp
      · simp

set_option maxHeartbeats 8000000 in
theorem drow_x {w : World} {c : Nat} {a : Option Addr} {len cap : Nat} (p : Int) (h : Cu w c a len cap) (hl : len ≤ 1048576) :
    Calls Tryd.prog 16 #[.pointer (some ⟨c, 0, none⟩), .slice a len cap, .int .i64 p] w fun e w' => ∃ u n ys, e = .returned u ∧ n ≤ 256 ∧ w'.ownsRow w.heap.size 3 1 u n (ils ys n) ∧ Cu w' c a len cap ∧ Keep c w w' := by
  obtain ⟨i0, hi, hz0, hz1, hz2⟩ := info_parts Tryd.info3
  have HC1 : Hid (Cu w c a len cap) := h
  have HL1 : Hid (c < w.heap.size) := h.lt
  have HD : Hid (Cu (w.alloc (.cells #[] 3)) c a len cap) := h.call (below_one _ _)
  have P2 : ∀ (p : Int) W, Cu W c a len cap → Calls Tryd.prog 36 #[.pointer (some ⟨c, 0, none⟩), .slice (some ⟨W.heap.size, 0, none⟩) 2 2] (W.alloc (.cells #[.int .i64 (-1), .int .i64 p] 3)) fun e w' => ∃ x : Int, e = .returned (.int .i64 x) ∧ Cu w' c a len cap ∧ Keep c W w' := fun p W hW => pick_lit [-1, p] (by simp) (by simp) hW
  clear h
  go_enter Tryd.func16, Tryd.ntmps16
  go_wp2_with (first
    | (go_at_call 31; refine (size_x a len cap 5 hl).mono ?_; rintro e w' ⟨z, rfl, hz5, _, hz6, hw⟩; obtain rfl := hw.symm; have hz7 := hz6 (by omega); clear hz6)
    | (go_at_call 32; (fail_if_success have := M1); refine (below_x HD.out (1 + z)).mono ?_; rintro e w2 ⟨j0, hj0, _, hj1, rfl, hc, hk⟩; have M1 : Hid True := trivial; have hj2 := hj1 (by omega); obtain ⟨j, rfl⟩ := Int.eq_ofNat_of_zero_le hj0; obtain ⟨P, hP, hP1, hP2⟩ := pow32 (j := j) (by omega); have HC2 : Hid (Cu w2 c a len cap) := hc; have K2 : Hid (Keep c (w.alloc (.cells #[] 3)) w2) := hk; clear hc hk hj1)
    | (go_at_call 17; (fail_if_success have := M2); refine (once_x HC2.out 20).mono ?_; rintro e w3 ⟨x3, rfl, hc, hk⟩; have M2 : Hid True := trivial; have HC3 : Hid (Cu w3 c a len cap) := hc; have K3 : Hid (Keep c (w.alloc (.cells #[] 3)) w3) := K2.out.trans hk; clear hc hk)
    | (go_at_call 32; have Z := M1; refine (below_x HC3.out 12).mono ?_; rintro e w4 ⟨y0, hy0, _, hy1, rfl, hc, hk⟩; have hy2 := hy1 (by omega); obtain ⟨P, rfl⟩ := Int.eq_ofNat_of_zero_le hy0; have HC3 : Hid (Cu w4 c a len cap) := hc; have K3 : Hid (Keep c (w.alloc (.cells #[] 3)) w4) := K3.out.trans hk; clear hc hk hy1)
    | (go_at_call 17; have Z := M2; refine (once_x HC3.out 150).mono ?_; rintro e w5 ⟨x5, rfl, hc, hk⟩; have HC5 : Hid (Cu w5 c a len cap) := hc; have K5 : Hid (Keep c (w.alloc (.cells #[] 3)) w5) := K3.out.trans hk; clear hc hk))
  · have hx5 : x5 = true := by first | assumption | simp_all
    subst hx5
    obtain ⟨P, hP⟩ : ∃ P : Nat, P = 256 := ⟨_, rfl⟩
    rw [show (256 : Int) = ((P : Nat) : Int) by omega]
    have hP2 : P ≤ 256 := by omega
    clear hP
    go_loopw [7, 9] (fun o i wr => ∃ (k : Nat), i = .int .i64 k ∧ k ≤ P ∧ Hid ((∃ ys, wr.ownsRow w.heap.size 3 1 o k (ils ys k)) ∧ Cu wr c a len cap ∧ Keep c w wr)) (fun _ i _ => P - (intOf i).toNat)
    case atStart => exact ⟨0, rfl, by omega, ⟨fun _ => 0, own_keep (own_empty w 3 1) K5.out HL1.out⟩, HC5.out, ((Keep.refl _ _).call (below_one _ _)).trans K5.out⟩
    case round =>
      obtain ⟨k, rfl, hk0, hcur⟩ := hrel
      by_cases h1 : k < P
      · obtain ⟨ys, ho⟩ := hcur.out.1
        have HO : Hid _ := ho
        clear ho
        go_wp2_with (first | (go_at_call 37; refine (dres_x p hcur.out.2.1).mono ?_; rintro e w6 ⟨x2, rfl, hc, hk⟩; have hb3 := below_one w6 (.cells #[.int .i64 x2] 3); have HO3 := own_below (own_keep HO.out hk HL1.out) hb3; have K6 : Hid (Keep c w (w6.alloc (.cells #[.int .i64 x2] 3))) := (hcur.out.2.2.trans hk).call hb3; have HC6 : Hid (Cu (w6.alloc (.cells #[.int .i64 x2] 3)) c a len cap) := hc.call hb3; have hs3 := K6.out.size; clear hc hk hb3) | (at_builtin; refine wpList_append_own _ rfl _ _ 24 rfl w.heap.size 3 i0 (.int .i64 0) 1 8 Tryd.underlying24 hi hz0 hz1 hz2 rfl (by decide) _ _ _ rfl HO3 ⟨w6.heap.size, 0, none⟩ 1 1 [.int .i64 x2] rfl rfl (one_new _ _ _) (by simp [Value.oneCell']) (by unfold maxLen; omega) (by omega) hs3 ?_))
        intro v' w7 hown' hgrow _
        have HB4 : Hid (Below w.heap.size (w6.alloc (.cells #[.int .i64 x2] 3)) w7) := grown_below (Below.refl w.heap.size _) hs3 HO3 hgrow
        rw [ils_app] at hown'
        have HO4 : Hid _ := hown'
        clear hown' hgrow HO3
        go_wp2
        go_roundw
        case rel => exact ⟨k + 1, by go_num, by omega, ⟨_, HO4.out⟩, HC1.out.grow HC6.out K6.out HB4.out, K6.out.below HB4.out⟩
        case measure => simp [intOf]; omega
      · obtain ⟨ys, ho⟩ := hcur.out.1
        obtain rfl : k = P := by omega
        rcases ho.2 with ⟨ho1, ho2⟩ | ⟨g, cg, cur, ho1, hbg, hgg, hcc, hrest⟩
        · have HO : Hid _ := ho
          clear ho
          obtain rfl : k = 0 := by omega
          subst ho1
          go_wp2_with (go_at_call 17; refine (once_x hcur.out.2.1 30).mono ?_; rintro e w8 ⟨x8, rfl, hc, hk⟩; have HC8 : Hid (Cu w8 c a len cap) := hc; have K8 : Hid (Keep c w w8) := hcur.out.2.2.trans hk; have HO8 := own_keep HO.out hk HL1.out; clear hc hk)
          all_goals
            go_ret
            exact ⟨_, _, _, rfl, by omega, HO8, HC8.out, K8.out⟩
        · have HO : Hid _ := ho
          subst ho1
          clear ho hrest hgg
          go_wp2_with (first
            | (go_at_call 17; refine (once_x hcur.out.2.1 30).mono ?_; rintro e w8 ⟨x8, rfl, hc, hk⟩; have HC8 : Hid (Cu w8 c a len cap) := hc; have K8 : Hid (Keep c w w8) := hcur.out.2.2.trans hk; have HO8 : Hid (w8.ownsRow w.heap.size 3 1 (.slice (some ⟨g, 0, none⟩) _ cg) _ (ils ys _)) := own_keep HO.out hk HL1.out; clear hc hk)
            | (go_at_call 36; refine (P2 p _ HC8.out).mono ?_; rintro e w9 ⟨x9, rfl, hc, hk⟩; have ho9 := own_keep HO8.out hk HL1.out; have hce := ho9.cellAt 0 (by omega); rw [ils_get (by omega)] at hce; have hfz := ho9.frozenAt 0; have hst := (ho9.stored 0 (.int .i64 x9)).1; rw [ils_first] at hst; have HS : Hid _ := hst; have HC9 : Hid (Cu w9 c a len cap) := hc; have K9 : Hid (Keep c w w9) := K8.out.trans hk; clear hc hk ho9 hst))
          all_goals
            go_ret
            first
            | exact ⟨_, _, _, rfl, by omega, HO8.out, HC8.out, K8.out⟩
            | exact ⟨_, _, _, rfl, by omega, HS.out, (set_keep HC1.out K9.out HC9.out hbg 0).2, (set_keep HC1.out K9.out HC9.out hbg 0).1⟩
  · have hx5 : x5 = false := by first | assumption | simp_all
    subst hx5
    go_loopw [7, 9] (fun o i wr => ∃ (k : Nat), i = .int .i64 k ∧ k ≤ P ∧ Hid ((∃ ys, wr.ownsRow w.heap.size 3 1 o k (ils ys k)) ∧ Cu wr c a len cap ∧ Keep c w wr)) (fun _ i _ => P - (intOf i).toNat)
    case atStart => exact ⟨0, rfl, by omega, ⟨fun _ => 0, own_keep (own_empty w 3 1) K5.out HL1.out⟩, HC5.out, ((Keep.refl _ _).call (below_one _ _)).trans K5.out⟩
    case round =>
      obtain ⟨k, rfl, hk0, hcur⟩ := hrel
      by_cases h1 : k < P
      · obtain ⟨ys, ho⟩ := hcur.out.1
        have HO : Hid _ := ho
        clear ho
        go_wp2_with (first | (go_at_call 37; refine (dres_x p hcur.out.2.1).mono ?_; rintro e w6 ⟨x2, rfl, hc, hk⟩; have hb3 := below_one w6 (.cells #[.int .i64 x2] 3); have HO3 := own_below (own_keep HO.out hk HL1.out) hb3; have K6 : Hid (Keep c w (w6.alloc (.cells #[.int .i64 x2] 3))) := (hcur.out.2.2.trans hk).call hb3; have HC6 : Hid (Cu (w6.alloc (.cells #[.int .i64 x2] 3)) c a len cap) := hc.call hb3; have hs3 := K6.out.size; clear hc hk hb3) | (at_builtin; refine wpList_append_own _ rfl _ _ 24 rfl w.heap.size 3 i0 (.int .i64 0) 1 8 Tryd.underlying24 hi hz0 hz1 hz2 rfl (by decide) _ _ _ rfl HO3 ⟨w6.heap.size, 0, none⟩ 1 1 [.int .i64 x2] rfl rfl (one_new _ _ _) (by simp [Value.oneCell']) (by unfold maxLen; omega) (by omega) hs3 ?_))
        intro v' w7 hown' hgrow _
        have HB4 : Hid (Below w.heap.size (w6.alloc (.cells #[.int .i64 x2] 3)) w7) := grown_below (Below.refl w.heap.size _) hs3 HO3 hgrow
        rw [ils_app] at hown'
        have HO4 : Hid _ := hown'
        clear hown' hgrow HO3
        go_wp2
        go_roundw
        case rel => exact ⟨k + 1, by go_num, by omega, ⟨_, HO4.out⟩, HC1.out.grow HC6.out K6.out HB4.out, K6.out.below HB4.out⟩
        case measure => simp [intOf]; omega
      · obtain ⟨ys, ho⟩ := hcur.out.1
        obtain rfl : k = P := by omega
        rcases ho.2 with ⟨ho1, ho2⟩ | ⟨g, cg, cur, ho1, hbg, hgg, hcc, hrest⟩
        · have HO : Hid _ := ho
          clear ho
          obtain rfl : k = 0 := by omega
          subst ho1
          go_wp2_with (go_at_call 17; refine (once_x hcur.out.2.1 30).mono ?_; rintro e w8 ⟨x8, rfl, hc, hk⟩; have HC8 : Hid (Cu w8 c a len cap) := hc; have K8 : Hid (Keep c w w8) := hcur.out.2.2.trans hk; have HO8 := own_keep HO.out hk HL1.out; clear hc hk)
          all_goals
            go_ret
            exact ⟨_, _, _, rfl, by omega, HO8, HC8.out, K8.out⟩
        · have HO : Hid _ := ho
          subst ho1
          clear ho hrest hgg
          go_wp2_with (first
            | (go_at_call 17; refine (once_x hcur.out.2.1 30).mono ?_; rintro e w8 ⟨x8, rfl, hc, hk⟩; have HC8 : Hid (Cu w8 c a len cap) := hc; have K8 : Hid (Keep c w w8) := hcur.out.2.2.trans hk; have HO8 : Hid (w8.ownsRow w.heap.size 3 1 (.slice (some ⟨g, 0, none⟩) _ cg) _ (ils ys _)) := own_keep HO.out hk HL1.out; clear hc hk)
            | (go_at_call 36; refine (P2 p _ HC8.out).mono ?_; rintro e w9 ⟨x9, rfl, hc, hk⟩; have ho9 := own_keep HO8.out hk HL1.out; have hce := ho9.cellAt 0 (by omega); rw [ils_get (by omega)] at hce; have hfz := ho9.frozenAt 0; have hst := (ho9.stored 0 (.int .i64 x9)).1; rw [ils_first] at hst; have HS : Hid _ := hst; have HC9 : Hid (Cu w9 c a len cap) := hc; have K9 : Hid (Keep c w w9) := K8.out.trans hk; clear hc hk ho9 hst))
          all_goals
            go_ret
            first
            | exact ⟨_, _, _, rfl, by omega, HO8.out, HC8.out, K8.out⟩
            | exact ⟨_, _, _, rfl, by omega, HS.out, (set_keep HC1.out K9.out HC9.out hbg 0).2, (set_keep HC1.out K9.out HC9.out hbg 0).1⟩
  · have hx5 : x5 = true := by first | assumption | simp_all
    subst hx5
    obtain ⟨P, hP⟩ : ∃ P : Nat, P = 256 := ⟨_, rfl⟩
    rw [show (256 : Int) = ((P : Nat) : Int) by omega]
    have hP2 : P ≤ 256 := by omega
    clear hP
    go_loopw [7, 9] (fun o i wr => ∃ (k : Nat), i = .int .i64 k ∧ k ≤ P ∧ Hid ((∃ ys, wr.ownsRow w.heap.size 3 1 o k (ils ys k)) ∧ Cu wr c a len cap ∧ Keep c w wr)) (fun _ i _ => P - (intOf i).toNat)
    case atStart => exact ⟨0, rfl, by omega, ⟨fun _ => 0, own_keep (own_empty w 3 1) K5.out HL1.out⟩, HC5.out, ((Keep.refl _ _).call (below_one _ _)).trans K5.out⟩
    case round =>
      obtain ⟨k, rfl, hk0, hcur⟩ := hrel
      by_cases h1 : k < P
      · obtain ⟨ys, ho⟩ := hcur.out.1
        have HO : Hid _ := ho
        clear ho
        go_wp2_with (first | (go_at_call 37; refine (dres_x p hcur.out.2.1).mono ?_; rintro e w6 ⟨x2, rfl, hc, hk⟩; have hb3 := below_one w6 (.cells #[.int .i64 x2] 3); have HO3 := own_below (own_keep HO.out hk HL1.out) hb3; have K6 : Hid (Keep c w (w6.alloc (.cells #[.int .i64 x2] 3))) := (hcur.out.2.2.trans hk).call hb3; have HC6 : Hid (Cu (w6.alloc (.cells #[.int .i64 x2] 3)) c a len cap) := hc.call hb3; have hs3 := K6.out.size; clear hc hk hb3) | (at_builtin; refine wpList_append_own _ rfl _ _ 24 rfl w.heap.size 3 i0 (.int .i64 0) 1 8 Tryd.underlying24 hi hz0 hz1 hz2 rfl (by decide) _ _ _ rfl HO3 ⟨w6.heap.size, 0, none⟩ 1 1 [.int .i64 x2] rfl rfl (one_new _ _ _) (by simp [Value.oneCell']) (by unfold maxLen; omega) (by omega) hs3 ?_))
        intro v' w7 hown' hgrow _
        have HB4 : Hid (Below w.heap.size (w6.alloc (.cells #[.int .i64 x2] 3)) w7) := grown_below (Below.refl w.heap.size _) hs3 HO3 hgrow
        rw [ils_app] at hown'
        have HO4 : Hid _ := hown'
        clear hown' hgrow HO3
        go_wp2
        go_roundw
        case rel => exact ⟨k + 1, by go_num, by omega, ⟨_, HO4.out⟩, HC1.out.grow HC6.out K6.out HB4.out, K6.out.below HB4.out⟩
        case measure => simp [intOf]; omega
      · obtain ⟨ys, ho⟩ := hcur.out.1
        obtain rfl : k = P := by omega
        rcases ho.2 with ⟨ho1, ho2⟩ | ⟨g, cg, cur, ho1, hbg, hgg, hcc, hrest⟩
        · have HO : Hid _ := ho
          clear ho
          obtain rfl : k = 0 := by omega
          subst ho1
          go_wp2_with (go_at_call 17; refine (once_x hcur.out.2.1 30).mono ?_; rintro e w8 ⟨x8, rfl, hc, hk⟩; have HC8 : Hid (Cu w8 c a len cap) := hc; have K8 : Hid (Keep c w w8) := hcur.out.2.2.trans hk; have HO8 := own_keep HO.out hk HL1.out; clear hc hk)
          all_goals
            go_ret
            exact ⟨_, _, _, rfl, by omega, HO8, HC8.out, K8.out⟩
        · have HO : Hid _ := ho
          subst ho1
          clear ho hrest hgg
          go_wp2_with (first
            | (go_at_call 17; refine (once_x hcur.out.2.1 30).mono ?_; rintro e w8 ⟨x8, rfl, hc, hk⟩; have HC8 : Hid (Cu w8 c a len cap) := hc; have K8 : Hid (Keep c w w8) := hcur.out.2.2.trans hk; have HO8 : Hid (w8.ownsRow w.heap.size 3 1 (.slice (some ⟨g, 0, none⟩) _ cg) _ (ils ys _)) := own_keep HO.out hk HL1.out; clear hc hk)
            | (go_at_call 36; refine (P2 p _ HC8.out).mono ?_; rintro e w9 ⟨x9, rfl, hc, hk⟩; have ho9 := own_keep HO8.out hk HL1.out; have hce := ho9.cellAt 0 (by omega); rw [ils_get (by omega)] at hce; have hfz := ho9.frozenAt 0; have hst := (ho9.stored 0 (.int .i64 x9)).1; rw [ils_first] at hst; have HS : Hid _ := hst; have HC9 : Hid (Cu w9 c a len cap) := hc; have K9 : Hid (Keep c w w9) := K8.out.trans hk; clear hc hk ho9 hst))
          all_goals
            go_ret
            first
            | exact ⟨_, _, _, rfl, by omega, HO8.out, HC8.out, K8.out⟩
            | exact ⟨_, _, _, rfl, by omega, HS.out, (set_keep HC1.out K9.out HC9.out hbg 0).2, (set_keep HC1.out K9.out HC9.out hbg 0).1⟩
  · have hx5 : x5 = false := by first | assumption | simp_all
    subst hx5
    go_loopw [7, 9] (fun o i wr => ∃ (k : Nat), i = .int .i64 k ∧ k ≤ P ∧ Hid ((∃ ys, wr.ownsRow w.heap.size 3 1 o k (ils ys k)) ∧ Cu wr c a len cap ∧ Keep c w wr)) (fun _ i _ => P - (intOf i).toNat)
    case atStart => exact ⟨0, rfl, by omega, ⟨fun _ => 0, own_keep (own_empty w 3 1) K5.out HL1.out⟩, HC5.out, ((Keep.refl _ _).call (below_one _ _)).trans K5.out⟩
    case round =>
      obtain ⟨k, rfl, hk0, hcur⟩ := hrel
      by_cases h1 : k < P
      · obtain ⟨ys, ho⟩ := hcur.out.1
        have HO : Hid _ := ho
        clear ho
        go_wp2_with (first | (go_at_call 37; refine (dres_x p hcur.out.2.1).mono ?_; rintro e w6 ⟨x2, rfl, hc, hk⟩; have hb3 := below_one w6 (.cells #[.int .i64 x2] 3); have HO3 := own_below (own_keep HO.out hk HL1.out) hb3; have K6 : Hid (Keep c w (w6.alloc (.cells #[.int .i64 x2] 3))) := (hcur.out.2.2.trans hk).call hb3; have HC6 : Hid (Cu (w6.alloc (.cells #[.int .i64 x2] 3)) c a len cap) := hc.call hb3; have hs3 := K6.out.size; clear hc hk hb3) | (at_builtin; refine wpList_append_own _ rfl _ _ 24 rfl w.heap.size 3 i0 (.int .i64 0) 1 8 Tryd.underlying24 hi hz0 hz1 hz2 rfl (by decide) _ _ _ rfl HO3 ⟨w6.heap.size, 0, none⟩ 1 1 [.int .i64 x2] rfl rfl (one_new _ _ _) (by simp [Value.oneCell']) (by unfold maxLen; omega) (by omega) hs3 ?_))
        intro v' w7 hown' hgrow _
        have HB4 : Hid (Below w.heap.size (w6.alloc (.cells #[.int .i64 x2] 3)) w7) := grown_below (Below.refl w.heap.size _) hs3 HO3 hgrow
        rw [ils_app] at hown'
        have HO4 : Hid _ := hown'
        clear hown' hgrow HO3
        go_wp2
        go_roundw
        case rel => exact ⟨k + 1, by go_num, by omega, ⟨_, HO4.out⟩, HC1.out.grow HC6.out K6.out HB4.out, K6.out.below HB4.out⟩
        case measure => simp [intOf]; omega
      · obtain ⟨ys, ho⟩ := hcur.out.1
        obtain rfl : k = P := by omega
        rcases ho.2 with ⟨ho1, ho2⟩ | ⟨g, cg, cur, ho1, hbg, hgg, hcc, hrest⟩
        · have HO : Hid _ := ho
          clear ho
          obtain rfl : k = 0 := by omega
          subst ho1
          go_wp2_with (go_at_call 17; refine (once_x hcur.out.2.1 30).mono ?_; rintro e w8 ⟨x8, rfl, hc, hk⟩; have HC8 : Hid (Cu w8 c a len cap) := hc; have K8 : Hid (Keep c w w8) := hcur.out.2.2.trans hk; have HO8 := own_keep HO.out hk HL1.out; clear hc hk)
          all_goals
            go_ret
            exact ⟨_, _, _, rfl, by omega, HO8, HC8.out, K8.out⟩
        · have HO : Hid _ := ho
          subst ho1
          clear ho hrest hgg
          go_wp2_with (first
            | (go_at_call 17; refine (once_x hcur.out.2.1 30).mono ?_; rintro e w8 ⟨x8, rfl, hc, hk⟩; have HC8 : Hid (Cu w8 c a len cap) := hc; have K8 : Hid (Keep c w w8) := hcur.out.2.2.trans hk; have HO8 : Hid (w8.ownsRow w.heap.size 3 1 (.slice (some ⟨g, 0, none⟩) _ cg) _ (ils ys _)) := own_keep HO.out hk HL1.out; clear hc hk)
            | (go_at_call 36; refine (P2 p _ HC8.out).mono ?_; rintro e w9 ⟨x9, rfl, hc, hk⟩; have ho9 := own_keep HO8.out hk HL1.out; have hce := ho9.cellAt 0 (by omega); rw [ils_get (by omega)] at hce; have hfz := ho9.frozenAt 0; have hst := (ho9.stored 0 (.int .i64 x9)).1; rw [ils_first] at hst; have HS : Hid _ := hst; have HC9 : Hid (Cu w9 c a len cap) := hc; have K9 : Hid (Keep c w w9) := K8.out.trans hk; clear hc hk ho9 hst))
          all_goals
            go_ret
            first
            | exact ⟨_, _, _, rfl, by omega, HO8.out, HC8.out, K8.out⟩
            | exact ⟨_, _, _, rfl, by omega, HS.out, (set_keep HC1.out K9.out HC9.out hbg 0).2, (set_keep HC1.out K9.out HC9.out hbg 0).1⟩

set_option maxHeartbeats 2000000 in
theorem ddft_x {w : World} {a : Option Addr} {len cap : Nat} (hr : Row w a len) (hl : len ≤ 1048576) :
    Calls Tryd.prog 6 #[.slice a len cap] w fun e w' => ∃ u n ys p b, e = .returned (.tuple #[u, .int .i64 p, .bool b]) ∧ n ≤ 256 ∧ w'.ownsRow w.heap.size 3 1 u n (ils ys n) ∧ Below w.heap.size w w' := by
  have HR : Hid (Row w a len) := hr
  clear hr
  obtain ⟨c, hcd⟩ : ∃ c, w.heap.size = c := ⟨_, rfl⟩
  have HN : Hid (Calls Tryd.prog 14 #[.slice a len cap] w fun e w' => e = .returned (.pointer (some ⟨c, 0, none⟩)) ∧ Cu w' c a len cap ∧ Below w.heap.size w w') := by have := new_x (cap := cap) HR.out (by omega); rw [← hcd]; exact this
  go_enter Tryd.func6, Tryd.ntmps6
  go_wp2_with (first
    | (go_at_call 14; refine HN.out.mono ?_; rintro e w1 ⟨rfl, hc, hb⟩; have HC1 : Hid (Cu w1 c a len cap) := hc; have B1 : Hid (Below w.heap.size w w1) := hb; clear hc hb)
    | (go_at_call 15; refine (dprime_x HC1.out).mono ?_; rintro e w2 ⟨p, rfl, hc, hk⟩; have HC2 : Hid (Cu w2 c a len cap) := hc; have K2 : Hid (Keep c w1 w2) := hk; clear hc hk)
    | (go_at_call 16; refine (drow_x p HC2.out hl).mono ?_; rintro e w3 ⟨u, n, ys, rfl, hn, ho, hc, hk⟩; have HO3 : Hid (w3.ownsRow w2.heap.size 3 1 u n (ils ys n)) := ho; have HC3 : Hid (Cu w3 c a len cap) := hc; have K3 : Hid (Keep c w1 w3) := K2.out.trans hk; clear ho hc hk)
    | (go_at_call 17; refine (once_x HC3.out 2).mono ?_; rintro e w4 ⟨x4, rfl, hc, hk⟩; have HO4 : Hid (w4.ownsRow w2.heap.size 3 1 u n (ils ys n)) := own_keep HO3.out hk (by have := HC2.out.lt; omega); have K4 : Hid (Keep c w1 w4) := K3.out.trans hk; clear hc hk))
  go_ret3
  exact ⟨_, _, _, _, _, rfl, hn, own_base HO4.out (by have h1 := B1.out.size; have h2 := K2.out.size; omega), Below.keep B1.out K4.out (Nat.le_of_eq hcd)⟩
end Go.Proofs.YtbbbahbbfaglbaaDoor
