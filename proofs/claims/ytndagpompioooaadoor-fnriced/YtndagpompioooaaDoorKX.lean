/- Drawn numbers that are left. -/
import Derived.Test.YtndagpompioooaaDoorD4
import Derived.Test.YtndagpompioooaaDoorAP
namespace Go.Proofs.YtndagpompioooaaDoor
open Go.RowKit

set_option maxHeartbeats 1000000 in
theorem pick_p {w : World} {c : Nat} {a : Option Addr} {len cap : Nat} (h : Cu w c a len cap) {g n cp : Nat} {xs : Nat → Int} (hg : g ≠ c) (hlt : g < w.heap.size) (h0 : 0 < n) (h1 : n ≤ 256) (hx : ∀ k, k < n → w.cell? ⟨g, k, none⟩ = some (.int .i64 (xs k))) (P : Int → Prop) (hP : ∀ k, k < n → P (xs k)) :
    Calls Tryd.prog 54 #[.pointer (some ⟨c, 0, none⟩), .slice (some ⟨g, 0, none⟩) n cp] w fun e w' => ∃ x : Int, P x ∧ e = .returned (.int .i64 x) ∧ Cu w' c a len cap ∧ Keep c w w' := by
  have HC : Hid (Cu w c a len cap) := h
  have HX : Hid _ := hx
  have HP : Hid (∀ k, k < n → P (xs k)) := hP
  clear h hx hP
  go_enter Tryd.func54, Tryd.ntmps54
  go_wp2_with (go_at_call 65; refine (below_x HC.out n).mono ?_; rintro e w' ⟨x, hx0, hx1, hx2, rfl, hc, hk⟩; have hx3 := hx2 (by omega); obtain ⟨k, rfl⟩ := Int.eq_ofNat_of_zero_le hx0; have HC2 : Hid (Cu w' c a len cap) := hc; have HK : Hid (Keep c w w') := hk; have cc : w'.cell? ⟨g, k, none⟩ = some (.int .i64 (xs k)) := (hk.cell (p := ⟨g, k, none⟩) hg hlt).trans (HX.out k (by omega)); clear hc hk hx2)
  go_ret
  exact ⟨_, HP.out k (by omega), rfl, HC2.out, HK.out⟩

theorem pick_lp (L : List Int) (h0 : 0 < L.length) (h1 : L.length ≤ 256) (P : Int → Prop) (hP : ∀ k, k < L.length → P (L.getD k 0)) {W : World} {c : Nat} {a : Option Addr} {len cap : Nat} (h : Cu W c a len cap) :
    Calls Tryd.prog 54 #[.pointer (some ⟨c, 0, none⟩), .slice (some ⟨W.heap.size, 0, none⟩) L.length L.length] (W.alloc (.cells (L.map (fun x => Value.int .i64 x)).toArray 3)) fun e w' => ∃ x : Int, P x ∧ e = .returned (.int .i64 x) ∧ Cu w' c a len cap ∧ Keep c W w' := by
  refine (pick_p (h.call (below_one _ _)) (Nat.ne_of_gt h.lt) (by simp) h0 h1 (lit_cells W L 3) P hP).mono ?_
  rintro e w' ⟨x, hx, rfl, hc, hk⟩
  exact ⟨x, hx, rfl, hc, ((Keep.refl _ _).call (below_one _ _)).trans hk⟩

theorem pkk {W : World} {c : Nat} {a : Option Addr} {len cap : Nat} (h : Cu W c a len cap) :
    Calls Tryd.prog 54 #[.pointer (some ⟨c, 0, none⟩), .slice (some ⟨W.heap.size, 0, none⟩) 12 12] (W.alloc (.cells #[.int .i64 0, .int .i64 1, .int .i64 2, .int .i64 3, .int .i64 4, .int .i64 6, .int .i64 12, .int .i64 20, .int .i64 30, .int .i64 31, .int .i64 (-1), .int .i64 5] 3)) fun e w' => ∃ x : Int, (-1 ≤ x ∧ x ≤ 31) ∧ e = .returned (.int .i64 x) ∧ Cu w' c a len cap ∧ Keep c W w' :=
  pick_lp [0, 1, 2, 3, 4, 6, 12, 20, 30, 31, -1, 5] (by simp) (by simp) (fun x => -1 ≤ x ∧ x ≤ 31) (by decide) h

theorem pk4 {W : World} {c : Nat} {a : Option Addr} {len cap : Nat} (h : Cu W c a len cap) :
    Calls Tryd.prog 54 #[.pointer (some ⟨c, 0, none⟩), .slice (some ⟨W.heap.size, 0, none⟩) 4 4] (W.alloc (.cells #[.int .i64 100000, .int .i64 (-70000), .int .i64 1000000000, .int .i64 (-1000000000)] 3)) fun e w' => ∃ x : Int, (-1000000000 ≤ x ∧ x ≤ 1000000000) ∧ e = .returned (.int .i64 x) ∧ Cu w' c a len cap ∧ Keep c W w' :=
  pick_lp [100000, -70000, 1000000000, -1000000000] (by simp) (by simp) (fun x => -1000000000 ≤ x ∧ x ≤ 1000000000) (by decide) h

theorem pk2 {W : World} {c : Nat} {a : Option Addr} {len cap : Nat} (h : Cu W c a len cap) :
    Calls Tryd.prog 54 #[.pointer (some ⟨c, 0, none⟩), .slice (some ⟨W.heap.size, 0, none⟩) 2 2] (W.alloc (.cells #[.int .i64 1000000001, .int .i64 (-1000000001)] 3)) fun e w' => ∃ x : Int, (-1000000001 ≤ x ∧ x ≤ 1000000001) ∧ e = .returned (.int .i64 x) ∧ Cu w' c a len cap ∧ Keep c W w' :=
  pick_lp [1000000001, -1000000001] (by simp) (by simp) (fun x => -1000000001 ≤ x ∧ x ≤ 1000000001) (by decide) h

theorem own_some3 {w : World} {B n : Nat} {v : Value} {xs : List Value} (h : w.ownsRow B 3 1 v n xs) (hn : 1 ≤ n) : ∃ g c, v = .slice (some ⟨g, 0, none⟩) n c ∧ B ≤ g ∧ n ≤ c := by
  rcases h.2 with ⟨rfl, rfl⟩ | ⟨g, cap, cur, rfl, hb, hg, hc, _⟩
  · omega
  · exact ⟨g, cap, rfl, hb, hc⟩

set_option maxRecDepth 20000 in
set_option maxHeartbeats 8000000 in
theorem dleft_x {w : World} {c : Nat} {a : Option Addr} {len cap : Nat} (h : Cu w c a len cap) (m : Int) (hm : 0 ≤ m ∧ m ≤ 60) :
    Calls Tryd.prog 39 #[.pointer (some ⟨c, 0, none⟩), .int .i64 m] w fun e w' => ∃ u n ys, e = .returned u ∧ n ≤ 62 ∧ w'.ownsRow w.heap.size 3 1 u n (ils ys n) ∧ Cu w' c a len cap ∧ Keep c w w' := by
  obtain ⟨i0, hi, hz0, hz1, hz2⟩ := info_parts Tryd.info3
  have HC : Hid (Cu w c a len cap) := h
  have hcl := h.lt
  have HD : Hid (Cu (w.alloc (.cells #[] 3)) c a len cap) := h.call (below_one _ _)
  clear h
  go_enter Tryd.func39, Tryd.ntmps39
  go_wp2_with (go_at_call 65; refine (below_x HD.out (m + 1)).mono ?_; rintro e w1 ⟨j0, hj0, _, hj1, rfl, hc, hk⟩; have hj2 := hj1 (by omega); have HC1 : Hid (Cu w1 c a len cap) := hc; have K1 : Hid (Keep c (w.alloc (.cells #[] 3)) w1) := hk; clear hc hk hj1)
  obtain ⟨j, rfl⟩ := Int.eq_ofNat_of_zero_le hj0
  go_loopw [5, 6] (fun o i wr => ∃ (q k : Nat), i = .int .i64 q ∧ q + k ≤ 61 ∧ Hid ((∃ ys, wr.ownsRow w.heap.size 3 1 o k (ils ys k)) ∧ Cu wr c a len cap ∧ Keep c w wr)) (fun _ i _ => (intOf i).toNat)
  case atStart => exact ⟨j, 0, rfl, by omega, ⟨fun _ => 0, own_keep (own_empty w 3 1) K1.out hcl⟩, HC1.out, ((Keep.refl _ _).call (below_one _ _)).trans K1.out⟩
  case round =>
    obtain ⟨q, k, rfl, hq, hcur⟩ := hrel
    obtain ⟨ys, ho⟩ := hcur.out.1
    have HO : Hid (wr.ownsRow w.heap.size 3 1 _ k (ils ys k)) := ho
    have HCW : Hid (Cu wr c a len cap) := hcur.out.2.1
    have HKW : Hid (Keep c w wr) := hcur.out.2.2
    clear ho hcur
    by_cases h1 : 0 < q
    · go_upto_region 6 with (first
        | (go_at_call 65; refine (below_x HCW.out 41).mono ?_; rintro e w2 ⟨x2, hx0, _, hx1, rfl, hc, hk⟩; have hx3 := hx1 (by omega); have hb3 := below_one w2 (.cells #[.int .i64 (x2 - 20)] 3); have HO3 := own_below (own_keep HO.out hk hcl) hb3; have K2 : Hid (Keep c w (w2.alloc (.cells #[.int .i64 (x2 - 20)] 3))) := (HKW.out.trans hk).call hb3; have HC3 : Hid (Cu (w2.alloc (.cells #[.int .i64 (x2 - 20)] 3)) c a len cap) := hc.call hb3; have hs3 := K2.out.size; clear hc hk hb3 hx1)
        | (at_builtin; refine wpList_append_own _ rfl _ _ 24 rfl w.heap.size 3 i0 (.int .i64 0) 1 8 Tryd.underlying24 hi hz0 hz1 hz2 rfl (by decide) _ _ _ rfl HO3 ⟨w2.heap.size, 0, none⟩ 1 1 [.int .i64 (x2 - 20)] rfl rfl (one_new _ _ _) (by simp [Value.oneCell']) (by unfold maxLen; omega) (by omega) hs3 ?_; intro v' w4 hown' hgrow _; have HB4 : Hid (Below w.heap.size (w2.alloc (.cells #[.int .i64 (x2 - 20)] 3)) w4) := grown_below (Below.refl w.heap.size _) hs3 HO3 hgrow; rw [ils_app] at hown'; have HO4 : Hid _ := hown'; clear hown' hgrow HO3))
      have HCW4 : Hid (Cu w4 c a len cap) := HC.out.grow HC3.out K2.out HB4.out
      have HKW4 : Hid (Keep c w w4) := K2.out.below HB4.out
      obtain ⟨g, gc, hv9, hgb, hgc⟩ := own_some3 HO4.out (by omega)
      subst hv9
      generalize (fun i => if i = k then x2 - 20 else ys i) = zs at HO4
      clear HB4 K2 HC3 hs3 hx0 hx3 HO HCW HKW
      go_upto_region 7 with (first
        | (go_at_call 64; refine (once_x HCW4.out 20).mono ?_; rintro e w5 ⟨bo, rfl, hc, hk⟩; have HCW5 : Hid (Cu w5 c a len cap) := hc; have HKW5 : Hid (Keep c w w5) := HKW4.out.trans hk; have HO5 : Hid (w5.ownsRow w.heap.size 3 1 (.slice (some ⟨g, 0, none⟩) (k + 1) gc) (k + 1) (ils zs (k + 1))) := own_keep HO4.out hk hcl; clear hc hk; rcases bo with _ | _))
      · go_roundw
        case rel => exact ⟨q - 1, k + 1, by congr 1; omega, by omega, ⟨zs, HO5.out⟩, HCW5.out, HKW5.out⟩
        case measure => simp [intOf]; omega
      · obtain ⟨k1, hk1⟩ : ∃ k1, k1 = k + 1 := ⟨_, rfl⟩
        have e1 : (k1 : Int) - 1 = (k : Int) := by omega
        have hk2 : k < k1 ∧ k1 ≤ k + 1 := by omega
        rw [← hk1] at HO5 hgc ⊢
        clear hk1 HO4 HCW4 HKW4
        go_wp2_with (first
          | (go_at_call 54; refine (pk4 HCW5.out).mono ?_; rintro e w6 ⟨x6, hx6, rfl, hc, hk⟩; have HO6 : Hid (w6.ownsRow w.heap.size 3 1 (.slice (some ⟨g, 0, none⟩) k1 gc) k1 (ils zs k1)) := own_keep HO5.out hk hcl; have hfz := HO6.out.frozenAt k; have hce := HO6.out.cellAt k (by omega); rw [ils_get (show k < k1 by omega)] at hce; have HC6 : Hid (Cu w6 c a len cap) := hc; have HK6 : Hid (Keep c w w6) := HKW5.out.trans hk; clear hc hk))
        have st := (HO6.out.stored k (.int .i64 x6)).1
        rw [ils_put] at st
        have BS : Below w.heap.size w6 (w6.setCell ⟨g, k, none⟩ (.int .i64 x6)) := Below.setCell (Below.refl _ _) (p := ⟨g, k, none⟩) hgb _
        go_roundw
        case rel => exact ⟨q - 1, k1, by congr 1; omega, by omega, ⟨_, st⟩, HC.out.grow HC6.out HK6.out BS, HK6.out.below BS⟩
        case measure => simp [intOf]; omega
    · obtain rfl : q = 0 := by omega
      go_upto_region 9 with (first
        | (go_at_call 64; refine (once_x HCW.out 40).mono ?_; rintro e w5 ⟨bo, rfl, hc, hk⟩; have HCW5 : Hid (Cu w5 c a len cap) := hc; have HKW5 : Hid (Keep c w w5) := HKW.out.trans hk; have HO5 : Hid (w5.ownsRow w.heap.size 3 1 _ k (ils ys k)) := own_keep HO.out hk hcl; clear hc hk; rcases bo with _ | _))
      · go_wp2
        go_ret
        exact ⟨_, k, ys, rfl, by omega, HO5.out, HCW5.out, HKW5.out⟩
      · go_wp2_with (first
          | (go_at_call 54; refine (pk2 HCW5.out).mono ?_; rintro e w6 ⟨x6, hx6, rfl, hc, hk⟩; have hb3 := below_one w6 (.cells #[.int .i64 x6] 3); have HO3 := own_below (own_keep HO5.out hk hcl) hb3; have K2 : Hid (Keep c w (w6.alloc (.cells #[.int .i64 x6] 3))) := (HKW5.out.trans hk).call hb3; have HC3 : Hid (Cu (w6.alloc (.cells #[.int .i64 x6] 3)) c a len cap) := hc.call hb3; have hs3 := K2.out.size; clear hc hk hb3)
          | (at_builtin; refine wpList_append_own _ rfl _ _ 24 rfl w.heap.size 3 i0 (.int .i64 0) 1 8 Tryd.underlying24 hi hz0 hz1 hz2 rfl (by decide) _ _ _ rfl HO3 ⟨w6.heap.size, 0, none⟩ 1 1 [.int .i64 x6] rfl rfl (one_new _ _ _) (by simp [Value.oneCell']) (by unfold maxLen; omega) (by omega) hs3 ?_; intro v' w4 hown' hgrow _; have HB4 : Hid (Below w.heap.size (w6.alloc (.cells #[.int .i64 x6] 3)) w4) := grown_below (Below.refl w.heap.size _) hs3 HO3 hgrow; rw [ils_app] at hown'; have HO4 : Hid _ := hown'; clear hown' hgrow HO3))
        go_ret
        exact ⟨_, k + 1, _, rfl, by omega, HO4.out, HC.out.grow HC3.out K2.out HB4.out, K2.out.below HB4.out⟩

set_option maxHeartbeats 2000000 in
theorem drawk_x {w : World} {c : Nat} {a : Option Addr} {len cap : Nat} (h : Cu w c a len cap) :
    Calls Tryd.prog 38 #[.pointer (some ⟨c, 0, none⟩)] w fun e w' => ∃ x : Int, e = .returned (.int .i64 x) ∧ Cu w' c a len cap ∧ Keep c w w' := by
  have HC : Hid (Cu w c a len cap) := h
  clear h
  go_enter Tryd.func38, Tryd.ntmps38
  go_wp2_with (go_at_call 54; refine (pkk HC.out).mono ?_; rintro e w6 ⟨x6, hx6, rfl, hc, hk⟩; have H6 : Hid (Cu w6 c a len cap ∧ Keep c w w6) := ⟨hc, hk⟩; clear hc hk)
  go_ret
  exact ⟨_, rfl, H6.out.1, H6.out.2⟩

set_option maxHeartbeats 4000000 in
theorem drice_x {w : World} {a : Option Addr} {len cap : Nat} (hr : Row w a len) (hl : len ≤ 1048576) :
    Calls Tryd.prog 10 #[.slice a len cap] w fun e w' => ∃ x u n xs, e = .returned (.tuple #[.int .i64 x, u]) ∧ n ≤ 62 ∧ Il w' u n xs ∧ Below w.heap.size w w' := by
  have HR : Hid (Row w a len) := hr
  clear hr
  obtain ⟨c, hcd⟩ : ∃ c, w.heap.size = c := ⟨_, rfl⟩
  have HN : Hid (Calls Tryd.prog 37 #[.slice a len cap] w fun e w' => e = .returned (.pointer (some ⟨c, 0, none⟩)) ∧ Cu w' c a len cap ∧ Below w.heap.size w w') := by have := new_x (cap := cap) HR.out (by omega); rw [← hcd]; exact this
  go_enter Tryd.func10, Tryd.ntmps10
  go_wp2_with (first
    | (go_at_call 37; refine HN.out.mono ?_; rintro e w1 ⟨rfl, hc, hb⟩; have HC : Hid (Cu w1 c a len cap) := hc; have B1 : Hid (Below w.heap.size w w1) := hb; clear hc hb)
    | (go_at_call 38; refine (drawk_x HC.out).mono ?_; rintro e w2 ⟨x2, rfl, hc, hk⟩; have HC2 : Hid (Cu w2 c a len cap) := hc; have K2 : Hid (Keep c w1 w2) := hk; clear hc hk)
    | (go_at_call 40; refine (size_x a len cap 30 hl).mono ?_; rintro e w' ⟨sz, rfl, hs0, hs1, hs2, hw⟩; have hs3 := hs2 (by omega); obtain rfl := hw.symm)
    | (go_at_call 39; refine (dleft_x HC2.out sz (by omega)).mono ?_; rintro e w4 ⟨u, n, ys, rfl, hn, ho, hc, hk⟩; have HO4 : Hid (w4.ownsRow w2.heap.size 3 1 u n (ils ys n)) := ho; have K4 : Hid (Keep c w1 w4) := K2.out.trans hk; clear ho hc hk))
  go_ret2
  exact ⟨_, _, n, ys, rfl, hn, il_of_own HO4.out, Below.keep B1.out K4.out (Nat.le_of_eq hcd)⟩
end Go.Proofs.YtndagpompioooaaDoor
