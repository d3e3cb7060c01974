/- FnConvolved: the draw of two lists. -/
import Derived.Test.YtbbbahbbfaglbaaDoorCB
namespace Go.Proofs.YtbbbahbbfaglbaaDoor
open Go.RowKit

/-- The second list begins. -/
theorem two_first {w1 w2 : World} {c n : Nat} {a : Option Addr} {len cap : Nat} {u : Value} {xs : Nat → Int} (ho : w2.ownsRow w1.heap.size 3 1 u n (ils xs n)) (hc : Cu w2 c a len cap) (hk : Keep c w1 w2) :
    TwoL w1 (w2.alloc (.cells #[] 3)) w1.heap.size c a len cap u (.slice (some ⟨w2.heap.size, 0, none⟩) 0 0) n 0 := by
  refine ⟨⟨xs, own_below ho (below_one _ _)⟩, ⟨fun _ => 0, own_base (own_empty w2 3 1) hk.size⟩, .inr (fun e => ?_), hc.call (below_one _ _), hk.call (below_one _ _)⟩
  have := World.ownsRow.lt ho w2.heap.size e
  omega

set_option maxHeartbeats 8000000 in
theorem dard_x {w : World} {a : Option Addr} {len cap : Nat} (hr : Row w a len) (hl : len ≤ 1048576) :
    Calls Tryd.prog 10 #[.slice a len cap] w fun e w' => ∃ u v n m xs ys, e = .returned (.tuple #[u, v]) ∧ n ≤ 61 ∧ m ≤ 62 ∧ w'.ownsRow w.heap.size 3 1 u n (ils xs n) ∧ w'.ownsRow w.heap.size 3 1 v m (ils ys m) ∧ Apart u v ∧ Below w.heap.size w w' := by
  obtain ⟨i0, hi, hz0, hz1, hz2⟩ := info_parts Tryd.info3
  have HR : Hid (Row w a len) := hr
  clear hr
  obtain ⟨c, hcd⟩ : ∃ c, w.heap.size = c := ⟨_, rfl⟩
  have HN : Hid (Calls Tryd.prog 14 #[.slice a len cap] w fun e w' => e = .returned (.pointer (some ⟨c, 0, none⟩)) ∧ Cu w' c a len cap ∧ Below w.heap.size w w') := by have := new_x (cap := cap) HR.out (by omega); rw [← hcd]; exact this
  go_enter Tryd.func10, Tryd.ntmps10
  go_wp2_with (first
    | (go_at_call 14; refine HN.out.mono ?_; rintro e w1 ⟨rfl, hc, hb⟩; have HC1 : Hid (Cu w1 c a len cap) := hc; have B1 : Hid (Below w.heap.size w w1) := hb; have BS : Hid (Base w1 w1 w1.heap.size c a len cap) := ⟨hc, Keep.refl _ _, rfl, hc.lt⟩; clear hc hb)
    | (go_at_call 31; refine (size_x a len cap 20 hl).mono ?_; rintro e w' ⟨z, rfl, hz5, _, hz6, hw⟩; obtain rfl := hw.symm; have hz7 := hz6 (by omega); clear hz6)
    | (go_at_call 30; refine (dtaps_x z (by omega) HC1.out).mono ?_; rintro e w2 ⟨u, n, xs, rfl, hn, ho, hc, hk⟩; have TL : Hid (TwoL w1 (w2.alloc (.cells #[] 3)) w1.heap.size c a len cap u (.slice (some ⟨w2.heap.size, 0, none⟩) 0 0) n 0) := two_first ho hc hk; have OU : Hid (w2.ownsRow w1.heap.size 3 1 u n (ils xs n)) := ho; clear ho hc hk))
  obtain ⟨ao, cu0, hu⟩ : ∃ ao cu0, u = .slice ao n cu0 := by
    obtain ⟨ao, cu0, e, _⟩ := il_of_own OU.out
    exact ⟨ao, cu0, e⟩
  subst hu
  clear OU
  go_loopw [6, 7] (fun o i wr => ∃ (k : Nat), i = .int .i64 k ∧ k ≤ n ∧ Hid (TwoL w1 wr w1.heap.size c a len cap (.slice ao n cu0) o n k)) (fun _ i _ => n - (intOf i).toNat)
  case atStart => exact ⟨0, rfl, by omega, TL.out⟩
  case round =>
    obtain ⟨k, rfl, hk0, hcur⟩ := hrel
    by_cases h1 : k < n
    · go_wp2_with (first | (go_at_call 32; refine (below_x hcur.out.cu 41).mono ?_; rintro e w6 ⟨x2, hx0, _, hx1, rfl, hc, hk⟩; have hx2 := hx1 (by omega); have T6 := (hcur.out.draw BS.out hc hk).one (.cells #[.int .i64 (x2 - 20)] 3) BS.out; have TL6 : Hid _ := T6; obtain ⟨ys, ho3⟩ := T6.ob; have HO3 := ho3; have hs3 := T6.size BS.out; clear hc hk hx1 T6 ho3) | (at_builtin; refine wpList_app _ rfl _ _ 24 rfl w1.heap.size 3 i0 (.int .i64 0) 1 8 Tryd.underlying24 hi hz0 hz1 hz2 rfl (by decide) _ _ _ rfl HO3 ⟨w6.heap.size, 0, none⟩ 1 1 [.int .i64 (x2 - 20)] rfl rfl (one_new _ _ _) (by simp [Value.oneCell']) (by unfold maxLen; omega) (by omega) hs3 (by omega) ?_))
      intro v' w7 hown' hgrow hbk
      have T7 : Hid (TwoL w1 w7 w1.heap.size c a len cap (.slice ao n cu0) v' n (k + 1)) := TL6.out.appB BS.out HO3 hown' hgrow (by first | exact hbk | simpa using hbk)
      clear hown' hgrow hbk HO3
      go_wp2
      go_roundw
      case rel => exact ⟨k + 1, by go_num, by omega, T7.out⟩
      case measure => simp [intOf]; omega
    · go_wp2_with (first | (go_at_call 17; refine (once_x hcur.out.cu 20).mono ?_; rintro e w6 ⟨x6, rfl, hc, hk⟩; have T6 := hcur.out.draw BS.out hc hk; have TL6 : Hid _ := T6; have T8 : Hid _ := T6.one (.cells #[.int .i64 1] 3) BS.out; obtain ⟨ys, ho3⟩ := T8.out.ob; have HO3 := ho3; have hs3 := T8.out.size BS.out; clear hc hk T6 ho3) | (at_builtin; refine wpList_app _ rfl _ _ 24 rfl w1.heap.size 3 i0 (.int .i64 0) 1 8 Tryd.underlying24 hi hz0 hz1 hz2 rfl (by decide) _ _ _ rfl HO3 ⟨w6.heap.size, 0, none⟩ 1 1 [.int .i64 1] rfl rfl (one_new _ _ _) (by simp [Value.oneCell']) (by unfold maxLen; omega) (by omega) hs3 (by omega) ?_; intro v' w7 hown' hgrow hbk; have T9 : Hid (TwoL w1 w7 w1.heap.size c a len cap (.slice ao n cu0) v' n (k + 1)) := T8.out.appB BS.out HO3 hown' hgrow (by first | exact hbk | simpa using hbk); clear hown' hgrow hbk))
      all_goals
        go_ret2
        first
        | (obtain ⟨⟨xs', oa⟩, ⟨ys', ob⟩, ap, cu, kp⟩ := T9.out; exact ⟨_, _, n, k + 1, xs', ys', rfl, by omega, by omega, own_base oa B1.out.size, own_base ob B1.out.size, ap, Below.keep B1.out kp (Nat.le_of_eq hcd)⟩)
        | (obtain ⟨⟨xs', oa⟩, ⟨ys', ob⟩, ap, cu, kp⟩ := TL6.out; exact ⟨_, _, n, k, xs', ys', rfl, by omega, by omega, own_base oa B1.out.size, own_base ob B1.out.size, ap, Below.keep B1.out kp (Nat.le_of_eq hcd)⟩)

/-- A residue as the law makes it. -/
theorem tres (x : Int) : (x.tmod 998244353 + 998244353).tmod 998244353 = x % 998244353 ∧ -998244353 < x.tmod 998244353 ∧ x.tmod 998244353 < 998244353 := by
  have h1 : -998244353 < x.tmod 998244353 ∧ x.tmod 998244353 < 998244353 := by
    rcases Int.lt_or_le x 0 with h | h
    · have e : x.tmod 998244353 = -((-x) % 998244353) := by rw [← Int.tmod_eq_emod_of_nonneg (by omega), Int.neg_tmod, Int.neg_neg]
      rw [e]
      omega
    · rw [Int.tmod_eq_emod_of_nonneg h]
      omega
  refine ⟨?_, h1⟩
  rw [Int.tmod_eq_emod_of_nonneg (by omega)]
  rcases Int.lt_or_le x 0 with h | h
  · have e : x.tmod 998244353 = -((-x) % 998244353) := by rw [← Int.tmod_eq_emod_of_nonneg (by omega), Int.neg_tmod, Int.neg_neg]
    rw [e]
    omega
  · rw [Int.tmod_eq_emod_of_nonneg h]
    omega

set_option maxHeartbeats 4000000 in
theorem resid_any {w : World} {v : Value} {n : Nat} {xs : Nat → Int} (hv : Il w v n xs) (hn : n ≤ 1048576) :
    Calls Tryd.prog 13 #[v] w fun e w' => ∃ u, e = .returned u ∧ w'.ownsRow w.heap.size 3 1 u n (ils (fun k => xs k % 998244353) n) ∧ Below w.heap.size w w' := by
  obtain ⟨i0, hi, hz0, hz1, hz2⟩ := info_parts Tryd.info3
  obtain ⟨ao, cap, rfl, hcap, hc⟩ := hv
  have HC : Hid (0 < n → ∃ b off, ao = some ⟨b, off, none⟩ ∧ b < w.heap.size ∧ ∀ k, k < n → w.cell? ⟨b, off + k, none⟩ = some (.int .i64 (xs k))) := hc
  clear hc
  go_enter Tryd.func13, Tryd.ntmps13
  go_wp2
  go_loopw [3, 4] (fun o i wr => ∃ (k : Nat), i = .int .i64 k ∧ k ≤ n ∧ Hid (wr.ownsRow w.heap.size 3 1 o k (ils (fun k => xs k % 998244353) k) ∧ Below w.heap.size w wr)) (fun _ i _ => n - (intOf i).toNat)
  case atStart => exact ⟨0, rfl, by omega, own_empty w 3 1, below_one _ _⟩
  case round =>
    obtain ⟨k, rfl, hk0, hcur⟩ := hrel
    by_cases h1 : k < n
    · obtain ⟨b, off, rfl, hlt, hcell⟩ := HC.out (by omega)
      have c : wr.cell? ⟨b, off + k, none⟩ = some (.int .i64 (xs k)) := (hcur.out.2.cell (p := ⟨b, off + k, none⟩) hlt).trans (hcell k h1)
      clear hcell
      obtain ⟨t1, t2, t3⟩ := tres (xs k)
      obtain ⟨y, hy⟩ : ∃ y, (xs k).tmod 998244353 = y := ⟨_, rfl⟩
      rw [hy] at t1 t2 t3
      have hb3 := below_one wr (.cells #[.int .i64 (xs k % 998244353)] 3)
      have HO3 := own_below hcur.out.1 hb3
      have hs3 : w.heap.size ≤ (wr.alloc (.cells #[.int .i64 (xs k % 998244353)] 3)).heap.size := Nat.le_trans hcur.out.2.size hb3.size
      have B3 : Hid (Below w.heap.size w (wr.alloc (.cells #[.int .i64 (xs k % 998244353)] 3))) := hcur.out.2.alloc hcur.out.2.size _
      clear hb3
      go_wp2_with (at_builtin; refine wpList_append_own _ rfl _ _ 24 rfl w.heap.size 3 i0 (.int .i64 0) 1 8 Tryd.underlying24 hi hz0 hz1 hz2 rfl (by decide) _ _ _ rfl HO3 ⟨wr.heap.size, 0, none⟩ 1 1 [.int .i64 (xs k % 998244353)] rfl rfl (one_new _ _ _) (by simp [Value.oneCell']) (by unfold maxLen; omega) (by omega) hs3 ?_)
      intro v' w7 hown' hgrow _
      have HB4 : Hid (Below w.heap.size w w7) := B3.out.trans (grown_below (Below.refl w.heap.size _) hs3 HO3 hgrow)
      rw [← ils_snoc (fun k => xs k % 998244353)] at hown'
      have HO4 : Hid _ := hown'
      clear hown' hgrow HO3
      go_wp2
      go_roundw
      case rel => exact ⟨k + 1, by go_num, by omega, HO4.out, HB4.out⟩
      case measure => simp [intOf]; omega
    · obtain rfl : k = n := by omega
      go_wp2
      go_ret
      exact ⟨_, rfl, hcur.out.1, hcur.out.2⟩
end Go.Proofs.YtbbbahbbfaglbaaDoor
