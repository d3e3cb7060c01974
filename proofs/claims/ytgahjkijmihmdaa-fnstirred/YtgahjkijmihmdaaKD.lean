/- Drawn bits. -/
import Derived.Test.YtgahjkijmihmdaaD4
namespace Go.Proofs.Ytgahjkijmihmdaa
open Go.RowKit

set_option maxHeartbeats 2000000 in
theorem ddraw_x {w : World} {c : Nat} {a : Option Addr} {len cap : Nat} (h : Cu w c a len cap) (m : Int) (hm : 0 ≤ m ∧ m ≤ 60) :
    Calls Try.prog 31 #[.pointer (some ⟨c, 0, none⟩), .int .i64 m] w fun e w' => ∃ u n ys, e = .returned u ∧ n ≤ 61 ∧ w'.ownsRow w.heap.size 3 1 u n (ils ys n) ∧ Cu w' c a len cap ∧ Keep c w w' := by
  obtain ⟨i0, hi, hz0, hz1, hz2⟩ := info_parts Try.info3
  have HC : Hid (Cu w c a len cap) := h
  have hcl := h.lt
  have HD : Hid (Cu (w.alloc (.cells #[] 3)) c a len cap) := h.call (below_one _ _)
  clear h
  go_enter Try.func31, Try.ntmps31
  go_wp2_with (go_at_call 34; refine (below_x HD.out (m + 1)).mono ?_; rintro e w1 ⟨j0, hj0, _, hj1, rfl, hc, hk⟩; have hj2 := hj1 (by omega); have HC1 : Hid (Cu w1 c a len cap) := hc; have K1 : Hid (Keep c (w.alloc (.cells #[] 3)) w1) := hk; clear hc hk hj1)
  obtain ⟨j, rfl⟩ := Int.eq_ofNat_of_zero_le hj0
  go_loopw [5, 6] (fun o i wr => ∃ (q k : Nat), i = .int .i64 q ∧ q + k ≤ 61 ∧ Hid ((∃ ys, wr.ownsRow w.heap.size 3 1 o k (ils ys k)) ∧ Cu wr c a len cap ∧ Keep c w wr)) (fun _ i _ => (intOf i).toNat)
  case atStart => exact ⟨j, 0, rfl, by omega, ⟨fun _ => 0, own_keep (own_empty w 3 1) K1.out hcl⟩, HC1.out, ((Keep.refl _ _).call (below_one _ _)).trans K1.out⟩
  case round =>
    obtain ⟨q, k, rfl, hq, hcur⟩ := hrel
    by_cases h1 : 0 < q
    · obtain ⟨ys, ho⟩ := hcur.out.1
      have HO : Hid _ := ho
      clear ho
      go_wp2_with (first | (go_at_call 34; refine (below_x hcur.out.2.1 2).mono ?_; rintro e w2 ⟨x2, _, _, _, rfl, hc, hk⟩; have hb3 := below_one w2 (.cells #[.int .i64 x2] 3); have HO3 := own_below (own_keep HO.out hk hcl) hb3; have K2 : Hid (Keep c w (w2.alloc (.cells #[.int .i64 x2] 3))) := (hcur.out.2.2.trans hk).call hb3; have HC3 : Hid (Cu (w2.alloc (.cells #[.int .i64 x2] 3)) c a len cap) := hc.call hb3; have hs3 := K2.out.size; clear hc hk hb3) | (at_builtin; refine wpList_append_own _ rfl _ _ 24 rfl w.heap.size 3 i0 (.int .i64 0) 1 8 Try.underlying24 hi hz0 hz1 hz2 rfl (by decide) _ _ _ rfl HO3 ⟨w2.heap.size, 0, none⟩ 1 1 [.int .i64 x2] rfl rfl (one_new _ _ _) (by simp [Value.oneCell']) (by unfold maxLen; omega) (by omega) hs3 ?_))
      intro v' w4 hown' hgrow _
      have HB4 : Hid (Below w.heap.size (w2.alloc (.cells #[.int .i64 x2] 3)) w4) := grown_below (Below.refl w.heap.size _) hs3 HO3 hgrow
      rw [ils_app] at hown'
      have HO4 : Hid _ := hown'
      clear hown' hgrow HO3
      go_wp2
      go_roundw
      case rel => exact ⟨q - 1, k + 1, by congr 1; omega, by omega, ⟨_, HO4.out⟩, HC.out.grow HC3.out K2.out HB4.out, K2.out.below HB4.out⟩
      case measure => simp [intOf]; omega
    · obtain rfl : q = 0 := by omega
      obtain ⟨ys, ho⟩ := hcur.out.1
      have HO : Hid _ := ho
      clear ho
      go_wp2
      go_ret
      exact ⟨_, k, ys, rfl, by omega, HO.out, hcur.out.2.1, hcur.out.2.2⟩

set_option maxHeartbeats 4000000 in
theorem dany_x {w : World} {c : Nat} {a : Option Addr} {len cap : Nat} (h : Cu w c a len cap) {la : Option Addr} {ln lc : Nat} (hln : ln ≤ 1048576) :
    Calls Try.prog 20 #[.pointer (some ⟨c, 0, none⟩), .slice la ln lc] w fun e w' => ∃ u n ys, e = .returned u ∧ n ≤ 1025 ∧ w'.ownsRow w.heap.size 3 1 u n (ils ys n) ∧ Cu w' c a len cap ∧ Keep c w w' := by
  obtain ⟨i0, hi, hz0, hz1, hz2⟩ := info_parts Try.info3
  have HC : Hid (Cu w c a len cap) := h
  have hcl := h.lt
  clear h
  have P2 : ∀ W, Cu W c a len cap → Calls Try.prog 21 #[.pointer (some ⟨c, 0, none⟩), .slice (some ⟨W.heap.size, 0, none⟩) 2 2] (W.alloc (.cells #[.int .i64 2, .int .i64 (-1)] 3)) fun e w' => ∃ x : Int, e = .returned (.int .i64 x) ∧ Cu w' c a len cap ∧ Keep c W w' := fun W hW => pick_lit [2, -1] (by decide) (by decide) hW
  go_enter Try.func20, Try.ntmps20
  go_wp2_with (first
    | (go_at_call 32; refine (size_x la ln lc 30 hln).mono ?_; rintro e w' ⟨sz, rfl, hs0, hs1, hs2, hw⟩; have hs3 := hs2 (by omega); obtain rfl := hw.symm)
    | (go_at_call 31; refine (ddraw_x HC.out (2 * sz) (by omega)).mono ?_; rintro e w1 ⟨u1, n1, ys1, rfl, hn1, ho, hc, hk⟩; have HO1 : Hid (w1.ownsRow w.heap.size 3 1 u1 n1 (ils ys1 n1)) := ho; have HC1 : Hid (Cu w1 c a len cap) := hc; have K1 : Hid (Keep c w w1) := hk; clear ho hc hk)
    | (go_at_call 33; (fail_if_success have := M2); refine (once_x HC1.out 30).mono ?_; rintro e w2 ⟨x2, rfl, hc, hk⟩; have M2 : Hid True := trivial; have HO2 : Hid (w2.ownsRow w.heap.size 3 1 u1 n1 (ils ys1 n1)) := own_keep HO1.out hk hcl; have HC2 : Hid (Cu w2 c a len cap) := hc; have K2 : Hid (Keep c w w2) := K1.out.trans hk; clear hc hk)
    | (go_at_call 21; refine (P2 _ HC2.out).mono ?_; rintro e w3 ⟨x3, rfl, hc, hk⟩; have hb3 := below_one w3 (.cells #[.int .i64 x3] 3); have HO3 := own_below (own_keep HO2.out hk hcl) hb3; have K3 : Hid (Keep c w (w3.alloc (.cells #[.int .i64 x3] 3))) := (K2.out.trans hk).call hb3; have HC3 : Hid (Cu (w3.alloc (.cells #[.int .i64 x3] 3)) c a len cap) := hc.call hb3; have hs3 := K3.out.size; clear hc hk hb3)
    | (at_builtin; refine wpList_append_own _ rfl _ _ 24 rfl w.heap.size 3 i0 (.int .i64 0) 1 8 Try.underlying24 hi hz0 hz1 hz2 rfl (by decide) _ _ _ rfl HO3 ⟨w3.heap.size, 0, none⟩ 1 1 [.int .i64 x3] rfl rfl (one_new _ _ _) (by simp [Value.oneCell']) (by unfold maxLen; omega) (by omega) hs3 ?_; intro v4 w4 hown' hgrow _; have HB4 : Hid (Below w.heap.size (w3.alloc (.cells #[.int .i64 x3] 3)) w4) := grown_below (Below.refl w.heap.size _) hs3 HO3 hgrow; rw [ils_app] at hown'; have HO4 : Hid (w4.ownsRow w.heap.size 3 1 v4 (n1 + 1) (ils (fun i => if i = n1 then x3 else ys1 i) (n1 + 1))) := hown'; have HC4 : Hid (Cu w4 c a len cap) := HC.out.grow HC3.out K3.out HB4.out; have K4 : Hid (Keep c w w4) := K3.out.below HB4.out; have M4 : Hid True := trivial; clear hown' hgrow HO3)
    | (go_at_call 33; have Z := M4; (fail_if_success have := M5); refine (once_x HC4.out 80).mono ?_; rintro e w5 ⟨x5, rfl, hc, hk⟩; have M5 : Hid True := trivial; have HI5 : Hid (w5.ownsRow w.heap.size 3 1 v4 (n1 + 1) (ils (fun i => if i = n1 then x3 else ys1 i) (n1 + 1))) := own_keep HO4.out hk hcl; have HC5 : Hid (Cu w5 c a len cap) := hc; have K5 : Hid (Keep c w w5) := K4.out.trans hk; clear hc hk)
    | (go_at_call 33; (fail_if_success have := M4); (fail_if_success have := M5); refine (once_x HC2.out 80).mono ?_; rintro e w5 ⟨x5, rfl, hc, hk⟩; have M5 : Hid True := trivial; have HI5' : Hid (w5.ownsRow w.heap.size 3 1 u1 n1 (ils ys1 n1)) := own_keep HO2.out hk hcl; have HC5 : Hid (Cu w5 c a len cap) := hc; have K5 : Hid (Keep c w w5) := K2.out.trans hk; clear hc hk)
    | (go_at_call 34; refine (below_x HC5.out 2).mono ?_; rintro e w6 ⟨x6, h60, _, h62, rfl, hc, hk⟩; have h63 := h62 (by omega); obtain ⟨t, rfl⟩ := Int.eq_ofNat_of_zero_le h60; have HC6 : Hid (Cu w6 c a len cap) := hc; have K6 : Hid (Keep c w w6) := K5.out.trans hk; clear hc hk h62)
    | (at_make; refine wpList_make_full _ rfl _ _ 24 rfl w.heap.size 3 i0 (.int .i64 0) 1 Try.underlying24 hi hz0 hz1 .i64 .i64 _ _ (1024 + t) rfl rfl (by omega) (by omega) (by rw [hz2]; omega) (by unfold maxLen; omega) K6.out.size ?_; intro w7 hown hgrow; have HB7 : Hid (Below w6.heap.size w6 w7) := (Below.refl _ _).grown hgrow (Nat.le_refl _) (fun _ h => by cases h); rw [made_ils] at hown; have HI7 : Hid (w7.ownsRow w.heap.size 3 1 (.slice (some ⟨w6.heap.size, 0, none⟩) (1024 + t) (1024 + t)) (1024 + t) (ils (fun _ => 0) (1024 + t))) := hown; clear hown hgrow))
  all_goals
    go_ret
    first
      | exact ⟨_, _, _, rfl, by omega, HI7.out, HC6.out.call HB7.out, K6.out.call HB7.out⟩
      | exact ⟨_, _, _, rfl, by omega, HI5.out, HC5.out, K5.out⟩
      | exact ⟨_, _, _, rfl, by omega, HI5'.out, HC5.out, K5.out⟩
set_option maxHeartbeats 1000000 in
theorem pick_p {w : World} {c : Nat} {a : Option Addr} {len cap : Nat} (h : Cu w c a len cap) {g n cp : Nat} {xs : Nat → Int} (hg : g ≠ c) (hlt : g < w.heap.size) (h0 : 0 < n) (h1 : n ≤ 256) (hx : ∀ k, k < n → w.cell? ⟨g, k, none⟩ = some (.int .i64 (xs k))) (P : Int → Prop) (hP : ∀ k, k < n → P (xs k)) :
    Calls Try.prog 21 #[.pointer (some ⟨c, 0, none⟩), .slice (some ⟨g, 0, none⟩) n cp] w fun e w' => ∃ x : Int, P x ∧ e = .returned (.int .i64 x) ∧ Cu w' c a len cap ∧ Keep c w w' := by
  have HC : Hid (Cu w c a len cap) := h
  have HX : Hid _ := hx
  have HP : Hid (∀ k, k < n → P (xs k)) := hP
  clear h hx hP
  go_enter Try.func21, Try.ntmps21
  go_wp2_with (go_at_call 34; refine (below_x HC.out n).mono ?_; rintro e w' ⟨x, hx0, hx1, hx2, rfl, hc, hk⟩; have hx3 := hx2 (by omega); obtain ⟨k, rfl⟩ := Int.eq_ofNat_of_zero_le hx0; have HC2 : Hid (Cu w' c a len cap) := hc; have HK : Hid (Keep c w w') := hk; have cc : w'.cell? ⟨g, k, none⟩ = some (.int .i64 (xs k)) := (hk.cell (p := ⟨g, k, none⟩) hg hlt).trans (HX.out k (by omega)); clear hc hk hx2)
  go_ret
  exact ⟨_, HP.out k (by omega), rfl, HC2.out, HK.out⟩

theorem pick_lp (L : List Int) (h0 : 0 < L.length) (h1 : L.length ≤ 256) (P : Int → Prop) (hP : ∀ k, k < L.length → P (L.getD k 0)) {W : World} {c : Nat} {a : Option Addr} {len cap : Nat} (h : Cu W c a len cap) :
    Calls Try.prog 21 #[.pointer (some ⟨c, 0, none⟩), .slice (some ⟨W.heap.size, 0, none⟩) L.length L.length] (W.alloc (.cells (L.map (fun x => Value.int .i64 x)).toArray 3)) fun e w' => ∃ x : Int, P x ∧ e = .returned (.int .i64 x) ∧ Cu w' c a len cap ∧ Keep c W w' := by
  refine (pick_p (h.call (below_one _ _)) (Nat.ne_of_gt h.lt) (by simp) h0 h1 (lit_cells W L 3) P hP).mono ?_
  rintro e w' ⟨x, hx, rfl, hc, hk⟩
  exact ⟨x, hx, rfl, hc, ((Keep.refl _ _).call (below_one _ _)).trans hk⟩

theorem pk7 {W : World} {c : Nat} {a : Option Addr} {len cap : Nat} (h : Cu W c a len cap) :
    Calls Try.prog 21 #[.pointer (some ⟨c, 0, none⟩), .slice (some ⟨W.heap.size, 0, none⟩) 7 7] (W.alloc (.cells #[.int .i64 1, .int .i64 46080, .int .i64 33, .int .i64 65535, .int .i64 0, .int .i64 65536, .int .i64 40960] 3)) fun e w' => ∃ x : Int, (0 ≤ x ∧ x ≤ 65536) ∧ e = .returned (.int .i64 x) ∧ Cu w' c a len cap ∧ Keep c W w' :=
  pick_lp [1, 46080, 33, 65535, 0, 65536, 40960] (by simp) (by simp) (fun x => 0 ≤ x ∧ x ≤ 65536) (by decide) h

theorem pk6 {W : World} {c : Nat} {a : Option Addr} {len cap : Nat} (h : Cu W c a len cap) :
    Calls Try.prog 21 #[.pointer (some ⟨c, 0, none⟩), .slice (some ⟨W.heap.size, 0, none⟩) 6 6] (W.alloc (.cells #[.int .i64 1, .int .i64 44257, .int .i64 65535, .int .i64 0, .int .i64 65536, .int .i64 77] 3)) fun e w' => ∃ x : Int, (0 ≤ x ∧ x ≤ 65536) ∧ e = .returned (.int .i64 x) ∧ Cu w' c a len cap ∧ Keep c W w' :=
  pick_lp [1, 44257, 65535, 0, 65536, 77] (by simp) (by simp) (fun x => 0 ≤ x ∧ x ≤ 65536) (by decide) h

set_option maxHeartbeats 4000000 in
theorem dstir_x {w : World} {a : Option Addr} {len cap : Nat} (hr : Row w a len) (hl : len ≤ 1048576) :
    Calls Try.prog 5 #[.slice a len cap] w fun e w' => ∃ u n ys t s, e = .returned (.tuple #[u, .int .i64 t, .int .i64 s]) ∧ n ≤ 1025 ∧ (0 ≤ t ∧ t ≤ 65536) ∧ (0 ≤ s ∧ s ≤ 65536) ∧ w'.ownsRow w.heap.size 3 1 u n (ils ys n) ∧ Below w.heap.size w w' := by
  have HR : Hid (Row w a len) := hr
  clear hr
  obtain ⟨c, hcd⟩ : ∃ c, w.heap.size = c := ⟨_, rfl⟩
  have HN : Hid (Calls Try.prog 19 #[.slice a len cap] w fun e w' => e = .returned (.pointer (some ⟨c, 0, none⟩)) ∧ Cu w' c a len cap ∧ Below w.heap.size w w') := by have := new_x (cap := cap) HR.out (by omega); rw [← hcd]; exact this
  go_enter Try.func5, Try.ntmps5
  go_wp2_with (first
    | (go_at_call 19; refine HN.out.mono ?_; rintro e w1 ⟨rfl, hc, hb⟩; have HC : Hid (Cu w1 c a len cap) := hc; have B1 : Hid (Below w.heap.size w w1) := hb; have LC : Hid (c < w1.heap.size) := hc.lt; clear hc hb)
    | (go_at_call 20; refine (dany_x HC.out hl).mono ?_; rintro e w2 ⟨u, n, ys, rfl, hn, ho, hc, hk⟩; have HO2 : Hid (w2.ownsRow w1.heap.size 3 1 u n (ils ys n)) := ho; have HC2 : Hid (Cu w2 c a len cap) := hc; have K2 : Hid (Keep c w1 w2) := hk; clear ho hc hk)
    | (go_at_call 21; (fail_if_success have := M3); refine (pk7 HC2.out).mono ?_; rintro e w3 ⟨x3, hx3, rfl, hc, hk⟩; have M3 : Hid True := trivial; have HO3 : Hid (w3.ownsRow w1.heap.size 3 1 u n (ils ys n)) := own_keep HO2.out hk LC.out; have HC3 : Hid (Cu w3 c a len cap) := hc; have K3 : Hid (Keep c w1 w3) := K2.out.trans hk; clear hc hk)
    | (go_at_call 21; refine (pk6 HC3.out).mono ?_; rintro e w4 ⟨x4, hx4, rfl, hc, hk⟩; have HO4 : Hid (w4.ownsRow w1.heap.size 3 1 u n (ils ys n)) := own_keep HO3.out hk LC.out; have HC4 : Hid (Cu w4 c a len cap) := hc; have K4 : Hid (Keep c w1 w4) := K3.out.trans hk; clear hc hk))
  go_ret3
  exact ⟨_, n, ys, x3, x4, rfl, hn, hx3, hx4, own_base HO4.out B1.out.size, Below.keep B1.out K4.out (Nat.le_of_eq hcd)⟩
end Go.Proofs.Ytgahjkijmihmdaa
