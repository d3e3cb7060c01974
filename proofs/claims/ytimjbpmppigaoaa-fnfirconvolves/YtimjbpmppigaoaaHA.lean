/- Taps drawn. -/
import Derived.Test.YtimjbpmppigaoaaD4
import Derived.Test.YtimjbpmppigaoaaRA
import Derived.Test.YtimjbpmppigaoaaRB
namespace Go.Proofs.Ytimjbpmppigaoaa
open Go.RowKit

set_option maxHeartbeats 4000000 in
theorem dtaps_x {w : World} {c : Nat} {a : Option Addr} {len cap : Nat} (h : Cu w c a len cap) :
    Calls Try.prog 16 #[.pointer (some ⟨c, 0, none⟩)] w fun e w' => ∃ u n ys, e = .returned u ∧ n ≤ 65 ∧ w'.ownsRow w.heap.size 3 1 u n (ils ys n) ∧ Cu w' c a len cap ∧ Keep c w w' := by
  obtain ⟨i0, hi, hz0, hz1, hz2⟩ := info_parts Try.info3
  have HC : Hid (Cu w c a len cap) := h
  have hcl := h.lt
  have HD : Hid (Cu (w.alloc (.cells #[] 3)) c a len cap) := h.call (below_one _ _)
  have P3 : ∀ W, Cu W c a len cap → Calls Try.prog 34 #[.pointer (some ⟨c, 0, none⟩), .slice (some ⟨W.heap.size, 0, none⟩) 3 3] (W.alloc (.cells #[.int .i64 1000000, .int .i64 (-1000000), .int .i64 1000001] 3)) fun e w' => ∃ x : Int, e = .returned (.int .i64 x) ∧ Cu w' c a len cap ∧ Keep c W w' := fun W hW => pick_lit [1000000, -1000000, 1000001] (by decide) (by decide) hW
  clear h
  go_enter Try.func16, Try.ntmps16
  go_wp2_with (go_at_call 17; refine (below_x HD.out 7).mono ?_; rintro e w1 ⟨j0, hj0, _, hj1, rfl, hc, hk⟩; have hj2 := hj1 (by omega); have HC1 : Hid (Cu w1 c a len cap) := hc; have K1 : Hid (Keep c (w.alloc (.cells #[] 3)) w1) := hk; clear hc hk hj1)
  obtain ⟨j, hj⟩ : ∃ j : Nat, 1 + j0 = (j : Int) := ⟨(1 + j0).toNat, by omega⟩
  rw [hj]
  have hjb : 1 ≤ j ∧ j ≤ 8 := by omega
  go_loopw [3, 4] (fun o i wr => ∃ (q k : Nat), i = .int .i64 q ∧ q + k = j ∧ Hid ((∃ ys, wr.ownsRow w.heap.size 3 1 o k (ils ys k)) ∧ Cu wr c a len cap ∧ Keep c w wr)) (fun _ i _ => (intOf i).toNat)
  case atStart => exact ⟨j, 0, rfl, by omega, ⟨fun _ => 0, own_keep (own_empty w 3 1) K1.out hcl⟩, HC1.out, ((Keep.refl _ _).call (below_one _ _)).trans K1.out⟩
  case round =>
    obtain ⟨q, k, rfl, hq, hcur⟩ := hrel
    by_cases h1 : 0 < q
    · obtain ⟨ys, ho⟩ := hcur.out.1
      have HO : Hid _ := ho
      clear ho
      go_wp2_with (first | (go_at_call 17; refine (below_x hcur.out.2.1 41).mono ?_; rintro e w2 ⟨x2, hx0, _, hx1, rfl, hc, hk⟩; have hx2 := hx1 (by omega); have hb3 := below_one w2 (.cells #[.int .i64 (x2 - 20)] 3); have HO3 := own_below (own_keep HO.out hk hcl) hb3; have K2 : Hid (Keep c w (w2.alloc (.cells #[.int .i64 (x2 - 20)] 3))) := (hcur.out.2.2.trans hk).call hb3; have HC3 : Hid (Cu (w2.alloc (.cells #[.int .i64 (x2 - 20)] 3)) c a len cap) := hc.call hb3; have hs3 := K2.out.size; clear hc hk hb3 hx1) | (at_builtin; refine wpList_append_own _ rfl _ _ 24 rfl w.heap.size 3 i0 (.int .i64 0) 1 8 Try.underlying24 hi hz0 hz1 hz2 rfl (by decide) _ _ _ rfl HO3 ⟨w2.heap.size, 0, none⟩ 1 1 [.int .i64 (x2 - 20)] rfl rfl (one_new _ _ _) (by simp [Value.oneCell']) (by unfold maxLen; omega) (by omega) hs3 ?_))
      intro v' w4 hown' hgrow _
      have HB4 : Hid (Below w.heap.size (w2.alloc (.cells #[.int .i64 (x2 - 20)] 3)) w4) := grown_below (Below.refl w.heap.size _) hs3 HO3 hgrow
      rw [ils_app] at hown'
      have HO4 : Hid _ := hown'
      clear hown' hgrow HO3
      go_wp2
      go_roundw
      case rel => exact ⟨q - 1, k + 1, by congr 1; omega, by omega, ⟨_, HO4.out⟩, HC.out.grow HC3.out K2.out HB4.out, K2.out.below HB4.out⟩
      case measure => simp [intOf]; omega
    · obtain rfl : q = 0 := by omega
      obtain ⟨ys, ho⟩ := hcur.out.1
      have HO : Hid (wr.ownsRow w.heap.size 3 1 u3 k (ils ys k)) := ho
      have HC5 : Hid (Cu wr c a len cap) := hcur.out.2.1
      have K5 : Hid (Keep c w wr) := hcur.out.2.2
      obtain ⟨g, gc, hu⟩ : ∃ g gc, u3 = .slice (some ⟨g, 0, none⟩) k gc := by
        rcases ho.2 with ⟨_, e⟩ | ⟨g, gc, cur, e, _⟩
        · omega
        · exact ⟨g, gc, e⟩
      subst hu
      have hk0 : 1 ≤ k := by omega
      have hk8 : k ≤ 8 := by omega
      clear ho hcur hq hj
      go_wp2_with (first
        | (go_at_call 18; (fail_if_success have := M6); refine (once_x HC5.out 20).mono ?_; rintro e w6 ⟨x6, rfl, hc, hk⟩; have M6 : Hid True := trivial; have HO6 : Hid (w6.ownsRow w.heap.size 3 1 (.slice (some ⟨g, 0, none⟩) k gc) k (ils ys k)) := own_keep HO.out hk hcl; have HC6 : Hid (Cu w6 c a len cap) := hc; have K6 : Hid (Keep c w w6) := K5.out.trans hk; clear hc hk)
        | (go_at_call 34; refine (P3 _ HC6.out).mono ?_; rintro e w7 ⟨x7, rfl, hc, hk⟩; have M7 : Hid True := trivial; have HO7 : Hid (w7.ownsRow w.heap.size 3 1 (.slice (some ⟨g, 0, none⟩) k gc) k (ils ys k)) := own_keep HO6.out hk hcl; have HC7 : Hid (Cu w7 c a len cap) := hc; have K7 : Hid (Keep c w w7) := K6.out.trans hk; have cz := World.ownsRow.frozenAt HO7.out 0; have cy := World.ownsRow.cellAt HO7.out 0 (by omega); rw [ils_get (by omega)] at cy; clear hc hk)
        | (go_at_call 18; have Z := M7; (fail_if_success have := M8); have st := (World.ownsRow.stored HO7.out 0 (.int .i64 x7)).1; rw [ils_put] at st; have hB8 : Below w.heap.size w7 (w7.setCell ⟨g, 0, none⟩ (.int .i64 x7)) := Kd.below (Below.refl w.heap.size w7) ((Kd.refl (fun q => q = g) w7).put (.inl rfl) 0 _) K7.out.size (fun q hq => by rw [hq]; exact (own_lt HO7.out).1); have HC8 : Hid (Cu (w7.setCell ⟨g, 0, none⟩ (.int .i64 x7)) c a len cap) := HC.out.grow HC7.out K7.out hB8; have K8 : Hid (Keep c w (w7.setCell ⟨g, 0, none⟩ (.int .i64 x7))) := K7.out.below hB8; refine (once_x HC8.out 60).mono ?_; rintro e w9 ⟨x9, rfl, hc, hk⟩; have M8 : Hid True := trivial; have HI9 : Hid (∃ ys, w9.ownsRow w.heap.size 3 1 (.slice (some ⟨g, 0, none⟩) k gc) k (ils ys k)) := ⟨_, own_keep st hk hcl⟩; have HC9 : Hid (Cu w9 c a len cap) := hc; have K9 : Hid (Keep c w w9) := K8.out.trans hk; clear hc hk st hB8)
        | (go_at_call 18; (fail_if_success have := M7); (fail_if_success have := M8); refine (once_x HC6.out 60).mono ?_; rintro e w9 ⟨x9, rfl, hc, hk⟩; have M8 : Hid True := trivial; have HI9 : Hid (∃ ys, w9.ownsRow w.heap.size 3 1 (.slice (some ⟨g, 0, none⟩) k gc) k (ils ys k)) := ⟨_, own_keep HO6.out hk hcl⟩; have HC9 : Hid (Cu w9 c a len cap) := hc; have K9 : Hid (Keep c w w9) := K6.out.trans hk; clear hc hk)
        | (go_at_call 17; refine (below_x HC9.out 2).mono ?_; rintro e w10 ⟨y6, h60, _, h62, rfl, hc, hk⟩; have h63 := h62 (by omega); obtain ⟨t, rfl⟩ := Int.eq_ofNat_of_zero_le h60; have HC10 : Hid (Cu w10 c a len cap) := hc; have K10 : Hid (Keep c w w10) := K9.out.trans hk; clear hc hk h62)
        | (at_make; refine wpList_make_full _ rfl _ _ 24 rfl w.heap.size 3 i0 (.int .i64 0) 1 Try.underlying24 hi hz0 hz1 .i64 .i64 _ _ (64 + t) rfl rfl (by omega) (by omega) (by rw [hz2]; omega) (by unfold maxLen; omega) K10.out.size ?_; intro w11 hown hgrow; have HB11 : Hid (Below w10.heap.size w10 w11) := (Below.refl _ _).grown hgrow (Nat.le_refl _) (fun _ h => by cases h); rw [made_ils] at hown; have HI11 : Hid (w11.ownsRow w.heap.size 3 1 (.slice (some ⟨w10.heap.size, 0, none⟩) (64 + t) (64 + t)) (64 + t) (ils (fun _ => 0) (64 + t))) := hown; clear hown hgrow))
      all_goals
        go_ret
        first
          | exact ⟨_, _, _, rfl, by omega, HI11.out, HC10.out.call HB11.out, K10.out.call HB11.out⟩
          | (obtain ⟨zs, hz⟩ := HI9.out; exact ⟨_, _, _, rfl, by omega, hz, HC9.out, K9.out⟩)
end Go.Proofs.Ytimjbpmppigaoaa
