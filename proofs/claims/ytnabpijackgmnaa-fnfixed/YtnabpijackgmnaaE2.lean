/- FnFixed: the draw of two lists. -/
import Derived.Test.YtnabpijackgmnaaE1
namespace Go.Proofs.Ytnabpijackgmnaa
open Go.RowKit

set_option maxRecDepth 20000 in
set_option maxHeartbeats 4000000 in
theorem ddot_x {w : World} {a : Option Addr} {len cap : Nat} (hr : Row w a len) (hl : len ≤ 1048576) :
    Calls Try.prog 15 #[.slice a len cap] w fun e w' => ∃ u v n m xs ys, ∃ f b c : Int, ∃ t : Bool, e = .returned (.tuple #[u, v, .int .i64 f, .int .i64 b, .int .i64 c, .bool t]) ∧ n ≤ 64 ∧ m ≤ 64 ∧ Il w' u n xs ∧ Il w' v m ys ∧ Below w.heap.size w w' := by
  obtain ⟨i0, hi, hz0, hz1, hz2⟩ := info_parts Try.info3
  have HR : Hid (Row w a len) := hr
  clear hr
  obtain ⟨c, hcd⟩ : ∃ c, w.heap.size = c := ⟨_, rfl⟩
  have HCD : Hid (w.heap.size = c) := hcd
  have HN : Hid (Calls Try.prog 29 #[.slice a len cap] w fun e w' => e = .returned (.pointer (some ⟨c, 0, none⟩)) ∧ Cu w' c a len cap ∧ Below w.heap.size w w') := by have := new_x (cap := cap) HR.out (by omega); rw [← hcd]; exact this
  clear hcd
  have P2 : ∀ W : World, Cu W c a len cap → Calls Try.prog 41 #[.pointer (some ⟨c, 0, none⟩), .slice (some ⟨W.heap.size, 0, none⟩) 2 2] (W.alloc (.cells #[.int .i64 0, .int .i64 16777216] 3)) fun e w' => ∃ x : Int, e = .returned (.int .i64 x) ∧ Cu w' c a len cap ∧ Keep c W w' := fun W hW => pick_lit [0, 16777216] (by decide) (by decide) hW
  go_enter Try.func15, Try.ntmps15
  go_wp2_with (first
    | (go_at_call 29; refine HN.out.mono ?_; rintro e w1 ⟨rfl, hc, hb⟩; have HC1 : Hid (Cu w1 c a len cap) := hc; have B1 : Hid (Below w.heap.size w w1) := hb; clear hc hb)
    | (go_at_call 38; refine (dfix_x HC1.out).mono ?_; rintro e w2 ⟨ff, bb, cc, rfl, hc, hk⟩; have HB : Hid (Base w1 w2 w2.heap.size c a len cap) := ⟨hc, hk, rfl, hc.lt⟩; have HT0 : Hid (TwoL _ _ _ _ _ _ _ _ _ _ _) := two_new HB.out; clear hc hk)
    | (go_at_call 39; refine (size_x a len cap 20 hl).mono ?_; rintro e w' ⟨sz, rfl, hx1, _, hx2, hw⟩; have hx3 := hx2 (by omega); obtain rfl := hw.symm; clear hx2)
    | (go_at_call 32; refine (below_x HT0.out.cu (sz + 1)).mono ?_; rintro e w3 ⟨j0, hj0, _, hj1, rfl, hc, hk⟩; have hj2 := hj1 (by omega); have HT1 : Hid (TwoL _ _ _ _ _ _ _ _ _ _ _) := TwoL.draw HB.out HT0.out hc hk; clear hc hk hj1))
  obtain ⟨j, rfl⟩ := Int.eq_ofNat_of_zero_le hj0
  go_loopw [12, 13, 14] (fun oa ob i wr => ∃ (q k : Nat), i = .int .i64 q ∧ q + k ≤ 21 ∧ Hid (TwoL w2 wr w2.heap.size c a len cap oa ob k k)) (fun _ _ i _ => (intOf i).toNat)
  case atStart => exact ⟨j, 0, rfl, by omega, HT1.out⟩
  case round =>
    obtain ⟨q, k, rfl, hq, HT2⟩ := hrel
    by_cases h1 : 0 < q
    · go_wp2_with (first
        | (go_at_call 40; (fail_if_success have := M3); refine (dword_x HT2.out.cu bb).mono ?_; rintro e y3 ⟨x3, rfl, hc, hk⟩; have M3 : Hid True := trivial; have ht := (TwoL.draw HB.out HT2.out hc hk).one (.cells #[.int .i64 x3] 3) HB.out; obtain ⟨f3, ho3⟩ := ht.oa; have hs3 := ht.size HB.out; have HT3 : Hid (TwoL _ _ _ _ _ _ _ _ _ _ _) := ht; clear hc hk ht)
        | (at_builtin; have Z := M3; (fail_if_success have := M4); refine wpList_app _ rfl _ _ 32 rfl w2.heap.size 3 i0 (.int .i64 0) 1 8 Try.underlying32 hi hz0 hz1 hz2 rfl (by decide) _ _ _ rfl ho3 ⟨y3.heap.size, 0, none⟩ 1 1 [.int .i64 x3] rfl rfl (one_new _ _ _) (by simp [Value.oneCell']) (by unfold maxLen; omega) (by omega) hs3 (by decide) ?_; intro v4 z4 hown hgrow hbk; have M4 : Hid True := trivial; have HT4 : Hid (TwoL _ _ _ _ _ _ _ _ _ _ _) := TwoL.appA HB.out HT3.out ho3 hown hgrow hbk; clear hown hgrow hbk ho3 hs3)
        | (go_at_call 40; have Z := M4; (fail_if_success have := M5); refine (dword_x HT4.out.cu bb).mono ?_; rintro e y5 ⟨x5, rfl, hc, hk⟩; have M5 : Hid True := trivial; have ht := (TwoL.draw HB.out HT4.out hc hk).one (.cells #[.int .i64 x5] 3) HB.out; obtain ⟨f5, ho5⟩ := ht.ob; have hs5 := ht.size HB.out; have HT5 : Hid (TwoL _ _ _ _ _ _ _ _ _ _ _) := ht; clear hc hk ht)
        | (at_builtin; have Z := M5; (fail_if_success have := M6); refine wpList_app _ rfl _ _ 32 rfl w2.heap.size 3 i0 (.int .i64 0) 1 8 Try.underlying32 hi hz0 hz1 hz2 rfl (by decide) _ _ _ rfl ho5 ⟨y5.heap.size, 0, none⟩ 1 1 [.int .i64 x5] rfl rfl (one_new _ _ _) (by simp [Value.oneCell']) (by unfold maxLen; omega) (by omega) hs5 (by decide) ?_; intro v6 z6 hown hgrow hbk; have M6 : Hid True := trivial; have HT6 : Hid (TwoL _ _ _ _ _ _ _ _ _ _ _) := TwoL.appB HB.out HT5.out ho5 hown hgrow hbk; clear hown hgrow hbk ho5 hs5))
      go_roundw
      case rel => exact ⟨q - 1, k + 1, by congr 1; omega, by omega, HT6⟩
      case measure => simp [intOf]; omega
    · obtain rfl : q = 0 := by omega
      have M2 : Hid True := trivial
      go_wp2_with (first
        | (go_at_call 31; have Z := M2; (fail_if_success have := M7); refine (once_x HT2.out.cu 25).mono ?_; rintro e y7 ⟨x7, rfl, hc, hk⟩; have M7 : Hid True := trivial; have HT7 : Hid (TwoL _ _ _ _ _ _ _ _ _ _ _) := TwoL.draw HB.out HT2.out hc hk; clear hc hk)
        | (go_at_call 41; refine (P2 _ HT7.out.cu).mono ?_; rintro e y8 ⟨x8, rfl, hc, hk⟩; have M8 : Hid True := trivial; have ht := (TwoL.draw HB.out HT7.out hc hk).one (.cells #[.int .i64 x8] 3) HB.out; obtain ⟨f8, ho8⟩ := ht.oa; have hs8 := ht.size HB.out; have HT8 : Hid (TwoL _ _ _ _ _ _ _ _ _ _ _) := ht; clear hc hk ht)
        | (at_builtin; have Z := M8; (fail_if_success have := M9); refine wpList_app _ rfl _ _ 32 rfl w2.heap.size 3 i0 (.int .i64 0) 1 8 Try.underlying32 hi hz0 hz1 hz2 rfl (by decide) _ _ _ rfl ho8 ⟨y8.heap.size, 0, none⟩ 1 1 [.int .i64 x8] rfl rfl (one_new _ _ _) (by simp [Value.oneCell']) (by unfold maxLen; omega) (by omega) hs8 (by decide) ?_; intro v9 z9 hown hgrow hbk; have M9 : Hid True := trivial; have HT9 : Hid (TwoL _ _ _ _ _ _ _ _ _ _ _) := TwoL.appA HB.out HT8.out ho8 hown hgrow hbk; clear hown hgrow hbk ho8 hs8)
        | (at_builtin; have Z := M9; (fail_if_success have := M10); have ht := HT9.out.one (.cells #[.int .i64 0] 3) HB.out; obtain ⟨f10, ho10⟩ := ht.ob; have hs10 := ht.size HB.out; have HTx : Hid (TwoL _ _ _ _ _ _ _ _ _ _ _) := ht; clear ht; refine wpList_app _ rfl _ _ 32 rfl w2.heap.size 3 i0 (.int .i64 0) 1 8 Try.underlying32 hi hz0 hz1 hz2 rfl (by decide) _ _ _ rfl ho10 ⟨z9.heap.size, 0, none⟩ 1 1 [.int .i64 0] rfl rfl (one_new _ _ _) (by simp [Value.oneCell']) (by unfold maxLen; omega) (by omega) hs10 (by decide) ?_; intro v10 z10 hown hgrow hbk; have M10 : Hid True := trivial; have HT10 : Hid (TwoL _ _ _ _ _ _ _ _ _ _ _) := TwoL.appB HB.out HTx.out ho10 hown hgrow hbk; clear hown hgrow hbk ho10 hs10)
        | (go_at_call 31; have Z := M10; (fail_if_success have := M11); refine (once_x HT10.out.cu 25).mono ?_; rintro e y11 ⟨x11, rfl, hc, hk⟩; have M11 : Hid True := trivial; have HT11 : Hid (TwoL _ _ _ _ _ _ _ _ _ _ _) := TwoL.draw HB.out HT10.out hc hk; clear hc hk)
        | (go_at_call 31; have Z := M7; (fail_if_success have := M8); (fail_if_success have := M9); (fail_if_success have := M11); refine (once_x HT7.out.cu 25).mono ?_; rintro e y11 ⟨x11, rfl, hc, hk⟩; have M11 : Hid True := trivial; have HT11 : Hid (TwoL _ _ _ _ _ _ _ _ _ _ _) := TwoL.draw HB.out HT7.out hc hk; clear hc hk)
        | (at_builtin; have Z := M11; (fail_if_success have := M13); have ht := HT11.out.one (.cells #[.int .i64 0] 3) HB.out; obtain ⟨f13, ho13⟩ := ht.ob; have hs13 := ht.size HB.out; have HTx : Hid (TwoL _ _ _ _ _ _ _ _ _ _ _) := ht; clear ht; refine wpList_app _ rfl _ _ 32 rfl w2.heap.size 3 i0 (.int .i64 0) 1 8 Try.underlying32 hi hz0 hz1 hz2 rfl (by decide) _ _ _ rfl ho13 ⟨y11.heap.size, 0, none⟩ 1 1 [.int .i64 0] rfl rfl (one_new _ _ _) (by simp [Value.oneCell']) (by unfold maxLen; omega) (by omega) hs13 (by decide) ?_; intro v13 z13 hown hgrow hbk; have M13 : Hid True := trivial; have HT13 : Hid (TwoL _ _ _ _ _ _ _ _ _ _ _) := TwoL.appB HB.out HTx.out ho13 hown hgrow hbk; clear hown hgrow hbk ho13 hs13)
        | (go_at_call 31; have Z := M13; refine (once_x HT13.out.cu 2).mono ?_; rintro e y14 ⟨x14, rfl, hc, hk⟩; have HT14 : Hid (TwoL _ _ _ _ _ _ _ _ _ _ _) := TwoL.draw HB.out HT13.out hc hk; clear hc hk)
        | (go_at_call 31; have Z := M11; (fail_if_success have := M13); refine (once_x HT11.out.cu 2).mono ?_; rintro e y14 ⟨x14, rfl, hc, hk⟩; have HT14 : Hid (TwoL _ _ _ _ _ _ _ _ _ _ _) := TwoL.draw HB.out HT11.out hc hk; clear hc hk))
      all_goals
        obtain ⟨⟨xs, ha⟩, ⟨ys, hv⟩, _, _, hkp⟩ := HT14.out
        first
          | (refine bodyPost_ret (v := .tuple #[v9, v13, .int .i64 ff, .int .i64 bb, .int .i64 cc, .bool x14]) (by simp [results, Try.results15, go_sem]) rfl ?_)
          | (refine bodyPost_ret (v := .tuple #[v9, v10, .int .i64 ff, .int .i64 bb, .int .i64 cc, .bool x14]) (by simp [results, Try.results15, go_sem]) rfl ?_)
          | (refine bodyPost_ret (v := .tuple #[u12, v13, .int .i64 ff, .int .i64 bb, .int .i64 cc, .bool x14]) (by simp [results, Try.results15, go_sem]) rfl ?_)
          | (refine bodyPost_ret (v := .tuple #[u12, u13, .int .i64 ff, .int .i64 bb, .int .i64 cc, .bool x14]) (by simp [results, Try.results15, go_sem]) rfl ?_)
        exact ⟨_, _, _, _, xs, ys, _, _, _, _, rfl, by omega, by omega, il_of_own ha, il_of_own hv, Below.keep B1.out (HB.out.kp.trans hkp) (Nat.le_of_eq HCD.out)⟩
end Go.Proofs.Ytnabpijackgmnaa
