/- A list of small samples drawn. -/
import Derived.Test.YtjngkpmkeehpeaaD4
import Derived.Test.YtjngkpmkeehpeaaAP
import Derived.BigRegion
namespace Go.Proofs.Ytjngkpmkeehpeaa
open Go.RowKit

theorem own_lt' {w : World} {B s n g c : Nat} {e : TypeId} {xs : List Value} (h : w.ownsRow B e s (.slice (some ⟨g, 0, none⟩) n c) n xs) : B ≤ g ∧ g < w.heap.size := by
  have := World.ownsRow.lt h g rfl
  omega

set_option maxHeartbeats 4000000 in
theorem dsm_x {w : World} {c : Nat} {a : Option Addr} {len cap : Nat} (h : Cu w c a len cap) (m : Int) (hm : 0 ≤ m ∧ m ≤ 60) :
    Calls Try.prog 15 #[.pointer (some ⟨c, 0, none⟩), .int .i64 m] w fun e w' => ∃ u n ys, e = .returned u ∧ n ≤ 64 ∧ w'.ownsRow w.heap.size 3 1 u n (ils ys n) ∧ Cu w' c a len cap ∧ Keep c w w' := by
  obtain ⟨i0, hi, hz0, hz1, hz2⟩ := info_parts Try.info3
  have HC : Hid (Cu w c a len cap) := h
  have hcl := h.lt
  have HD : Hid (Cu (w.alloc (.cells #[] 3)) c a len cap) := h.call (below_one _ _)
  clear h
  have P3 : ∀ W, Cu W c a len cap → Calls Try.prog 13 #[.pointer (some ⟨c, 0, none⟩), .slice (some ⟨W.heap.size, 0, none⟩) 2 2] (W.alloc (.cells #[.int .i64 1000000, .int .i64 (-1000000)] 3)) fun e w' => ∃ x : Int, e = .returned (.int .i64 x) ∧ Cu w' c a len cap ∧ Keep c W w' := fun W hW => pick_lit [1000000, -1000000] (by decide) (by decide) hW
  have P2 : ∀ W, Cu W c a len cap → Calls Try.prog 13 #[.pointer (some ⟨c, 0, none⟩), .slice (some ⟨W.heap.size, 0, none⟩) 3 3] (W.alloc (.cells #[.int .i64 1000001, .int .i64 (-1000001), .int .i64 1000000001] 3)) fun e w' => ∃ x : Int, e = .returned (.int .i64 x) ∧ Cu w' c a len cap ∧ Keep c W w' := fun W hW => pick_lit [1000001, -1000001, 1000000001] (by decide) (by decide) hW
  go_enter Try.func15, Try.ntmps15
  go_wp2_with (go_at_call 12; refine (below_x HD.out (m + 1)).mono ?_; rintro e w1 ⟨j0, hj0, _, hj1, rfl, hc, hk⟩; have hj2 := hj1 (by omega); have HC1 : Hid (Cu w1 c a len cap) := hc; have K1 : Hid (Keep c (w.alloc (.cells #[] 3)) w1) := hk; clear hc hk hj1)
  obtain ⟨j, rfl⟩ := Int.eq_ofNat_of_zero_le hj0
  go_loopw [5, 6] (fun o i wr => ∃ (q k : Nat), i = .int .i64 q ∧ q + k ≤ 61 ∧ Hid ((∃ ys, wr.ownsRow w.heap.size 3 1 o k (ils ys k)) ∧ Cu wr c a len cap ∧ Keep c w wr)) (fun _ i _ => (intOf i).toNat)
  case atStart => exact ⟨j, 0, rfl, by omega, ⟨fun _ => 0, own_keep (own_empty w 3 1) K1.out hcl⟩, HC1.out, ((Keep.refl _ _).call (below_one _ _)).trans K1.out⟩
  case round =>
    obtain ⟨q, k, rfl, hq, hcur⟩ := hrel
    by_cases h1 : 0 < q
    · obtain ⟨ys, ho⟩ := hcur.out.1
      have HO : Hid (wr.ownsRow w.heap.size 3 1 u5 k (ils ys k)) := ho
      clear ho
      go_wp2_with (first | (go_at_call 12; refine (below_x hcur.out.2.1 2001).mono ?_; rintro e w2 ⟨x2, hx0, hx1, _, rfl, hc, hk⟩; have hb3 := below_one w2 (.cells #[.int .i64 (x2 - 1000)] 3); have HO3 := own_below (own_keep HO.out hk hcl) hb3; have K2 : Hid (Keep c w (w2.alloc (.cells #[.int .i64 (x2 - 1000)] 3))) := (hcur.out.2.2.trans hk).call hb3; have HC3 : Hid (Cu (w2.alloc (.cells #[.int .i64 (x2 - 1000)] 3)) c a len cap) := hc.call hb3; have hs3 := K2.out.size; clear hc hk hb3) | (at_builtin; refine wpList_append_own _ rfl _ _ 28 rfl w.heap.size 3 i0 (.int .i64 0) 1 8 Try.underlying28 hi hz0 hz1 hz2 rfl (by decide) _ _ _ rfl HO3 ⟨w2.heap.size, 0, none⟩ 1 1 [.int .i64 (x2 - 1000)] rfl rfl (one_new _ _ _) (by simp [Value.oneCell']) (by unfold maxLen; omega) (by omega) hs3 ?_))
      intro v' w4 hown' hgrow _
      have HB4 : Hid (Below w.heap.size (w2.alloc (.cells #[.int .i64 (x2 - 1000)] 3)) w4) := grown_below (Below.refl w.heap.size _) hs3 HO3 hgrow
      rw [ils_app] at hown'
      obtain ⟨y4, HO4⟩ : ∃ y4, Hid (w4.ownsRow w.heap.size 3 1 v' (k + 1) (ils y4 (k + 1))) := ⟨_, hown'⟩
      have HC4 : Hid (Cu w4 c a len cap) := HC.out.grow HC3.out K2.out HB4.out
      have K4 : Hid (Keep c w w4) := K2.out.below HB4.out
      clear hown' hgrow HO3 HB4 K2 HC3 hs3 HO hcur
      obtain ⟨g, gc, rfl, hgc⟩ : ∃ g gc, v' = .slice (some ⟨g, 0, none⟩) (k + 1) gc ∧ k + 1 ≤ gc := by
        rcases HO4.out.2 with ⟨_, e⟩ | ⟨g, gc, cur, e, _, _, e2, _⟩
        · omega
        · exact ⟨g, gc, e, e2⟩
      have ek : ((k : Int) + 1) - 1 = (k : Int) := by omega
      go_wp2_with (first
        | (go_at_call 11; refine (once_x HC4.out 40).mono ?_; rintro e w5 ⟨x5, rfl, hc, hk⟩; have HO5 : Hid (w5.ownsRow w.heap.size 3 1 (.slice (some ⟨g, 0, none⟩) (k + 1) gc) (k + 1) (ils y4 (k + 1))) := own_keep HO4.out hk hcl; have HC5 : Hid (Cu w5 c a len cap) := hc; have K5 : Hid (Keep c w w5) := K4.out.trans hk; clear hc hk)
        | (go_at_call 13; refine (P3 _ HC5.out).mono ?_; rintro e w6 ⟨x6, rfl, hc, hk⟩; have HO6 : Hid (w6.ownsRow w.heap.size 3 1 (.slice (some ⟨g, 0, none⟩) (k + 1) gc) (k + 1) (ils y4 (k + 1))) := own_keep HO5.out hk hcl; have HC6 : Hid (Cu w6 c a len cap) := hc; have K6 : Hid (Keep c w w6) := K5.out.trans hk; clear hc hk; have d6 := World.ownsRow.cellAt HO6.out k (by omega); rw [ils_get (by omega)] at d6; have z6 := World.ownsRow.frozenAt HO6.out k))
      · have hgl := (own_lt' HO6.out).1
        have B7 : Below w.heap.size w6 (w6.setCell ⟨g, k, none⟩ (.int .i64 x6)) := (Below.refl w.heap.size w6).setCell (p := ⟨g, k, none⟩) hgl _
        have st := (World.ownsRow.stored HO6.out k (.int .i64 x6)).1
        rw [ils_put] at st
        exact ⟨⟨q - 1, k + 1, by congr 1; omega, by omega, ⟨_, st⟩, HC.out.grow HC6.out K6.out B7, K6.out.below B7⟩, by simp [intOf]; omega⟩
      · exact ⟨⟨q - 1, k + 1, by congr 1; omega, by omega, ⟨_, HO5.out⟩, HC5.out, K5.out⟩, by simp [intOf]; omega⟩
    · obtain rfl : q = 0 := by omega
      obtain ⟨ys, ho⟩ := hcur.out.1
      have HO : Hid (wr.ownsRow w.heap.size 3 1 u5 k (ils ys k)) := ho
      clear ho
      go_wp2_with (first
        | (go_at_call 11; refine (once_x hcur.out.2.1 30).mono ?_; rintro e w5 ⟨x5, rfl, hc, hk⟩; have HO5 : Hid (w5.ownsRow w.heap.size 3 1 u5 k (ils ys k)) := own_keep HO.out hk hcl; have HC5 : Hid (Cu w5 c a len cap) := hc; have K5 : Hid (Keep c w w5) := hcur.out.2.2.trans hk; clear hc hk)
        | (go_at_call 13; refine (P2 _ HC5.out).mono ?_; rintro e w6 ⟨x6, rfl, hc, hk⟩; have hb3 := below_one w6 (.cells #[.int .i64 x6] 3); have HO6 := own_below (own_keep HO5.out hk hcl) hb3; have HC6 : Hid (Cu (w6.alloc (.cells #[.int .i64 x6] 3)) c a len cap) := hc.call hb3; have K6 : Hid (Keep c w (w6.alloc (.cells #[.int .i64 x6] 3))) := (K5.out.trans hk).call hb3; have hs6 := K6.out.size; clear hc hk hb3)
        | (at_builtin; refine wpList_append_own _ rfl _ _ 28 rfl w.heap.size 3 i0 (.int .i64 0) 1 8 Try.underlying28 hi hz0 hz1 hz2 rfl (by decide) _ _ _ rfl HO6 ⟨w6.heap.size, 0, none⟩ 1 1 [.int .i64 x6] rfl rfl (one_new _ _ _) (by simp [Value.oneCell']) (by unfold maxLen; omega) (by omega) hs6 ?_; intro v7 w7 hown' hgrow _; have B7 : Hid (Below w.heap.size (w6.alloc (.cells #[.int .i64 x6] 3)) w7) := grown_below (Below.refl w.heap.size _) hs6 HO6 hgrow; rw [ils_app] at hown'; have HO7 : Hid (∃ y7, w7.ownsRow w.heap.size 3 1 v7 (k + 1) (ils y7 (k + 1))) := ⟨_, hown'⟩; clear hown' hgrow))
      all_goals
        go_ret
        first
          | (obtain ⟨y7, h7⟩ := HO7.out; exact ⟨_, _, y7, rfl, by omega, h7, HC.out.grow HC6.out K6.out B7.out, K6.out.below B7.out⟩)
          | exact ⟨_, _, _, rfl, by omega, HO5.out, HC5.out, K5.out⟩
end Go.Proofs.Ytjngkpmkeehpeaa
