/- What is kept, drawn. -/
import Derived.Test.YtgkcofjhajjjgaaD4
import Derived.Test.YtgkcofjhajjjgaaKD
import Derived.Test.YtgkcofjhajjjgaaAZ
namespace Go.Proofs.Ytgkcofjhajjjgaa
open Go.RowKit

theorem zeros_ils {w : World} {B n k : Nat} {v : Value} {ys : Nat → Int} (h : w.ownsRow B 3 1 v (n + k) (ils ys n ++ List.replicate k (.int .i64 0))) (hn : n + k ≤ 100) : ∃ n ys, n ≤ 100 ∧ w.ownsRow B 3 1 v n (ils ys n) := by
  refine ⟨n + k, fun i => if i < n then ys i else 0, hn, ?_⟩
  have e : ils ys n ++ List.replicate k (.int .i64 0) = ils (fun i => if i < n then ys i else 0) (n + k) := by
    apply List.ext_getElem?
    intro i
    by_cases h1 : i < n
    · rw [List.getElem?_append_left (by rw [ils_length]; exact h1), ils_get h1, ils_get (by omega), if_pos h1]
    · rw [List.getElem?_append_right (by rw [ils_length]; omega), ils_length]
      by_cases h2 : i < n + k
      · rw [ils_get h2, List.getElem?_replicate, if_pos (by omega), if_neg h1]
      · rw [List.getElem?_eq_none (by rw [List.length_replicate]; omega), List.getElem?_eq_none (by rw [ils_length]; omega)]
  rw [← e]
  exact h

theorem own_some {w : World} {B n : Nat} {v : Value} {L : List Value} (h : w.ownsRow B 3 1 v n L) (hn : 0 < n) : ∃ g cp, v = .slice (some ⟨g, 0, none⟩) n cp := by
  rcases h.2 with ⟨rfl, h9⟩ | ⟨g, cp, cur, rfl, _⟩
  · omega
  · exact ⟨g, cp, rfl⟩

set_option maxHeartbeats 4000000 in
theorem keep_x {w : World} {c : Nat} {a : Option Addr} {len cap : Nat} (h : Cu w c a len cap) :
    Calls Try.prog 49 #[.pointer (some ⟨c, 0, none⟩)] w fun e w' => ∃ u n ys, e = .returned u ∧ n ≤ 100 ∧ w'.ownsRow w.heap.size 3 1 u n (ils ys n) ∧ Cu w' c a len cap ∧ Keep c w w' := by
  obtain ⟨i0, hi, hz0, hz1, hz2⟩ := info_parts Try.info3
  have HC0 : Hid (Cu w c a len cap) := h
  have hcl := h.lt
  have HD : Hid (Cu (w.alloc (.cells #[] 3)) c a len cap) := h.call (below_one _ _)
  clear h
  go_enter Try.func49, Try.ntmps49
  go_wp2_with (go_at_call 30; refine (below_x HD.out 6).mono ?_; rintro e w1 ⟨j0, hj0, _, hj1, rfl, hc, hk⟩; have hj2 := hj1 (by omega); have HC1 : Hid (Cu w1 c a len cap) := hc; have K1 : Hid (Keep c (w.alloc (.cells #[] 3)) w1) := hk; clear hc hk hj1)
  obtain ⟨j, rfl⟩ := Int.eq_ofNat_of_zero_le hj0
  go_loopw [3, 4] (fun o i wr => ∃ (q k : Nat), i = .int .i64 q ∧ q + k = 1 + j ∧ Hid ((∃ ys, wr.ownsRow w.heap.size 3 1 o k (ils ys k)) ∧ Cu wr c a len cap ∧ Keep c w wr)) (fun _ i _ => (intOf i).toNat)
  case atStart => exact ⟨1 + j, 0, by congr 1, by omega, ⟨fun _ => 0, own_keep (own_empty w 3 1) K1.out hcl⟩, HC1.out, ((Keep.refl _ _).call (below_one _ _)).trans K1.out⟩
  case round =>
    obtain ⟨q, k, rfl, hq, hcur⟩ := hrel
    by_cases h1 : 0 < q
    · obtain ⟨ys, ho⟩ := hcur.out.1
      have HO : Hid _ := ho
      clear ho
      go_wp2_with (first | (go_at_call 30; refine (below_x hcur.out.2.1 3).mono ?_; rintro e w2 ⟨x3, hx0, hx1, _, rfl, hc, hk⟩; obtain ⟨x2, hx2⟩ : ∃ x2 : Int, x2 = x3 % 2 := ⟨_, rfl⟩; have e1 : x3 % 2 = x2 := hx2.symm; have e2 : x3.tmod 2 = x2 := (by rw [Int.tmod_eq_emod_of_nonneg hx0]; exact e1); have hb3 := below_one w2 (.cells #[.int .i64 x2] 3); have HO3 := own_below (own_keep HO.out hk hcl) hb3; have K2 : Hid (Keep c w (w2.alloc (.cells #[.int .i64 x2] 3))) := (hcur.out.2.2.trans hk).call hb3; have HC3 : Hid (Cu (w2.alloc (.cells #[.int .i64 x2] 3)) c a len cap) := hc.call hb3; have hs3 := K2.out.size; clear hc hk hb3 hx2) | (at_builtin; refine wpList_append_own _ rfl _ _ 24 rfl w.heap.size 3 i0 (.int .i64 0) 1 8 Try.underlying24 hi hz0 hz1 hz2 rfl (by decide) _ _ _ rfl HO3 ⟨w2.heap.size, 0, none⟩ 1 1 [.int .i64 x2] rfl rfl (one_new _ _ _) (by simp [Value.oneCell']) (by unfold maxLen; omega) (by omega) hs3 ?_))
      intro v' w4 hown' hgrow _
      have HB4 : Hid (Below w.heap.size (w2.alloc (.cells #[.int .i64 x2] 3)) w4) := grown_below (Below.refl w.heap.size _) hs3 HO3 hgrow
      rw [ils_app] at hown'
      have HO4 : Hid _ := hown'
      clear hown' hgrow HO3
      go_wp2
      go_roundw
      case rel => exact ⟨q - 1, k + 1, by congr 1; omega, by omega, ⟨_, HO4.out⟩, HC0.out.grow HC3.out K2.out HB4.out, K2.out.below HB4.out⟩
      case measure => simp [intOf]; omega
    · obtain rfl : q = 0 := by omega
      obtain ⟨ys, ho⟩ := hcur.out.1
      have HC : Hid (Cu wr c a len cap) := hcur.out.2.1
      have HK : Hid (Keep c w wr) := hcur.out.2.2
      obtain ⟨g, cp, rfl⟩ := own_some ho (by omega)
      have HO : Hid (wr.ownsRow w.heap.size 3 1 (.slice (some ⟨g, 0, none⟩) k cp) k (ils ys k)) := ho
      have hk6 : 0 < k ∧ k ≤ 6 := by omega
      clear ho hcur
      go_wp2_with (first
        | (go_at_call 43; (fail_if_success have := M1); refine (once_x HC.out 8).mono ?_; rintro e w1 ⟨x, rfl, hc, hk⟩; have M1 : Hid True := trivial; have O1 := own_keep HO.out hk hcl; have K1 := HK.out.trans hk; rcases x with _ | _; (have d0 := World.ownsRow.cellAt O1 0 (by omega); rw [ils_get (by omega)] at d0; have z0 := World.ownsRow.frozenAt O1 0; have st := (World.ownsRow.stored O1 0 (.int .i64 1)).1; rw [ils_put] at st; have hg := (World.ownsRow.lt O1 g rfl).1; have hb4 := (Below.refl w.heap.size w1).setCell (p := ⟨g, 0, none⟩) hg (.int .i64 1); have HC : Hid (Cu (w1.setCell ⟨g, 0, none⟩ (.int .i64 1)) c a len cap) := HC0.out.grow hc K1 hb4; have HK : Hid (Keep c w (w1.setCell ⟨g, 0, none⟩ (.int .i64 1))) := K1.below hb4; have HO : Hid (∃ n ys, n ≤ 10 ∧ (w1.setCell ⟨g, 0, none⟩ (.int .i64 1)).ownsRow w.heap.size 3 1 (.slice (some ⟨g, 0, none⟩) k cp) n (ils ys n)) := ⟨_, _, by omega, st⟩; clear hc hk O1 K1 st hg hb4); rotate_left; (have HC : Hid (Cu w1 c a len cap) := hc; have HK : Hid (Keep c w w1) := K1; have HO : Hid (∃ n ys, n ≤ 10 ∧ w1.ownsRow w.heap.size 3 1 (.slice (some ⟨g, 0, none⟩) k cp) n (ils ys n)) := ⟨_, _, by omega, O1⟩; clear hc hk O1 K1); rotate_left)
        | (go_at_call 43; have Z := M1; (fail_if_success have := M2); (fail_if_success have := M3); refine (once_x HC.out 30).mono ?_; rintro e w5 ⟨x, rfl, hc, hk⟩; obtain ⟨n9, ys9, hn9, ho9⟩ := HO.out; have O1 := own_keep ho9 hk hcl; have K1 := HK.out.trans hk; have HC : Hid (Cu w5 c a len cap) := hc; have HK : Hid (Keep c w w5) := K1; have HO : Hid (∃ n ys, n ≤ 10 ∧ w5.ownsRow w.heap.size 3 1 _ n (ils ys n)) := ⟨n9, ys9, by omega, O1⟩; have M3 : Hid True := trivial; clear hc hk O1 K1 ho9; rcases x with _ | _; (have M2 : Hid True := trivial))
        | (go_at_call 43; have Z := M2; (fail_if_success have := M4); refine (once_x HC.out 30).mono ?_; rintro e w6 ⟨x, rfl, hc, hk⟩; obtain ⟨n9, ys9, hn9, ho9⟩ := HO.out; have O1 := own_keep ho9 hk hcl; have K1 := HK.out.trans hk; have HC : Hid (Cu w6 c a len cap) := hc; have HK : Hid (Keep c w w6) := K1; have HO : Hid (∃ n ys, n ≤ 20 ∧ w6.ownsRow w.heap.size 3 1 _ n (ils ys n)) := ⟨n9, ys9, by omega, O1⟩; have HO7 : Hid (∃ n ys, n ≤ 100 ∧ w6.ownsRow w.heap.size 3 1 _ n (ils ys n)) := ⟨n9, ys9, by omega, O1⟩; have HC7 : Hid (Cu w6 c a len cap) := hc; have HK7 : Hid (Keep c w w6) := K1; have M4 : Hid True := trivial; clear hc hk O1 K1 ho9; rcases x with _ | _)
        | (at_builtin; have Z := M3; (fail_if_success have := M4); at_builtin; obtain ⟨n9, ys9, hn9, ho9⟩ := HO.out; have HO3 := own_below ho9 (below_one _ (.cells #[.int .i64 2] 3)); have K3 := HK.out.call (below_one _ (.cells #[.int .i64 2] 3)); have C3 := HC.out.call (below_one _ (.cells #[.int .i64 2] 3)); refine wpList_append_own _ rfl _ _ 24 rfl w.heap.size 3 i0 (.int .i64 0) 1 8 Try.underlying24 hi hz0 hz1 hz2 rfl (by decide) _ _ _ rfl HO3 ⟨_, 0, none⟩ 1 1 [.int .i64 2] rfl rfl (one_new _ _ _) (by simp [Value.oneCell']) (by unfold maxLen; omega) (by omega) K3.size ?_; intro v' w4 hown' hgrow _; have hb4 := grown_below (Below.refl w.heap.size _) K3.size HO3 hgrow; rw [ils_app] at hown'; have HC : Hid (Cu w4 c a len cap) := HC0.out.grow C3 K3 hb4; have HK : Hid (Keep c w w4) := K3.below hb4; have HO : Hid (∃ n ys, n ≤ 20 ∧ w4.ownsRow w.heap.size 3 1 v' n (ils ys n)) := ⟨_, _, by omega, hown'⟩; have M2 : Hid True := trivial; clear HO3 K3 C3 hown' hgrow hb4 ho9)
        | (at_builtin; have Z := M4; at_builtin; obtain ⟨n9, ys9, hn9, ho9⟩ := HO.out; obtain ⟨v2, W7, hr7, ho7, hg7⟩ := zeros_own _ w.heap.size 24 _ _ 32 _ ho9 (by omega) (by omega) HK.out.size; refine Lib.wpList_append_run _ rfl _ _ 24 3 rfl _ _ rfl rfl v2 W7 hr7 ?_; have hb4 := grown_below (Below.refl w.heap.size _) HK.out.size ho9 hg7; have HC7 : Hid (Cu W7 c a len cap) := HC0.out.grow HC.out HK.out hb4; have HK7 : Hid (Keep c w W7) := HK.out.below hb4; have HO7 : Hid (∃ n ys, n ≤ 100 ∧ W7.ownsRow w.heap.size 3 1 v2 n (ils ys n)) := zeros_ils ho7 (by omega); clear hr7 ho7 hg7 hb4 ho9))
      all_goals
        go_ret
        obtain ⟨n9, ys9, hn9, ho9⟩ := HO7.out
        exact ⟨_, n9, ys9, rfl, hn9, ho9, HC7.out, HK7.out⟩
end Go.Proofs.Ytgkcofjhajjjgaa
