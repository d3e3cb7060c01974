/- Draws of signals: where the list lies. -/
import Derived.Test.YtnabpijackgmnaaD4
namespace Go.Proofs.Ytnabpijackgmnaa
open Go.RowKit

theorem own_ne {w : World} {B n c : Nat} {v : Value} {xs : List Value} (h : w.ownsRow B 3 1 v n xs) (hc : c < B) : 0 < n → ∃ g o, (∃ cp, v = .slice (some ⟨g, o, none⟩) n cp) ∧ g ≠ c := by
  intro h0
  rcases h.2 with ⟨_, h'⟩ | ⟨g', cap', cur, h', hb', hg, rest⟩
  · omega
  · exact ⟨g', 0, ⟨cap', h'⟩, by omega⟩

theorem Il.keep {w w' : World} {v : Value} {n c : Nat} {xs : Nat → Int} (h : Il w v n xs) (hne : 0 < n → ∃ g o, (∃ cp, v = .slice (some ⟨g, o, none⟩) n cp) ∧ g ≠ c) (hk : Keep c w w') : Il w' v n xs := by
  obtain ⟨ao, cap, rfl, hcap, hc⟩ := h
  refine ⟨ao, cap, rfl, hcap, fun h0 => ?_⟩
  obtain ⟨b, off, rfl, hlt, hcell⟩ := hc h0
  obtain ⟨g, o, ⟨cp, e⟩, hg⟩ := hne h0
  injection e with e1
  injection e1 with e1
  injection e1 with e1 e2
  subst e1
  exact ⟨b, off, rfl, Nat.lt_of_lt_of_le hlt hk.size, fun k hk' => (hk.cell (p := ⟨b, off + k, none⟩) hg hlt).trans (hcell k hk')⟩

set_option maxHeartbeats 4000000 in
theorem dany_y {w : World} {c : Nat} {a : Option Addr} {len cap : Nat} (h : Cu w c a len cap) (m : Int) (hm : 0 ≤ m ∧ m ≤ 60) :
    Calls Try.prog 55 #[.pointer (some ⟨c, 0, none⟩), .int .i64 m] w fun e w' => ∃ u n ys, e = .returned u ∧ n ≤ 513 ∧ Il w' u n ys ∧ (0 < n → ∃ g o, (∃ cp, u = .slice (some ⟨g, o, none⟩) n cp) ∧ g ≠ c) ∧ Cu w' c a len cap ∧ Keep c w w' := by
  obtain ⟨i0, hi, hz0, hz1, hz2⟩ := info_parts Try.info3
  have HC : Hid (Cu w c a len cap) := h
  have hcl := h.lt
  clear h
  have P2 : ∀ W, Cu W c a len cap → Calls Try.prog 41 #[.pointer (some ⟨c, 0, none⟩), .slice (some ⟨W.heap.size, 0, none⟩) 2 2] (W.alloc (.cells #[.int .i64 1000000001, .int .i64 (-1000000001)] 3)) fun e w' => ∃ x : Int, e = .returned (.int .i64 x) ∧ Cu w' c a len cap ∧ Keep c W w' := fun W hW => pick_lit [1000000001, -1000000001] (by decide) (by decide) hW
  go_enter Try.func55, Try.ntmps55
  go_wp2_with (first
    | (go_at_call 62; refine (ddraw_x HC.out m hm).mono ?_; rintro e w1 ⟨u1, n1, ys1, rfl, hn1, ho, hc, hk⟩; have HO1 : Hid (w1.ownsRow w.heap.size 3 1 u1 n1 (ils ys1 n1)) := ho; have HC1 : Hid (Cu w1 c a len cap) := hc; have K1 : Hid (Keep c w w1) := hk; clear ho hc hk)
    | (go_at_call 31; (fail_if_success have := M2); refine (once_x HC1.out 25).mono ?_; rintro e w2 ⟨x2, rfl, hc, hk⟩; have M2 : Hid True := trivial; have HO2 : Hid (w2.ownsRow w.heap.size 3 1 u1 n1 (ils ys1 n1)) := own_keep HO1.out hk hcl; have HC2 : Hid (Cu w2 c a len cap) := hc; have K2 : Hid (Keep c w w2) := K1.out.trans hk; clear hc hk)
    | (go_at_call 41; refine (P2 _ HC2.out).mono ?_; rintro e w3 ⟨x3, rfl, hc, hk⟩; have hb3 := below_one w3 (.cells #[.int .i64 x3] 3); have HO3 := own_below (own_keep HO2.out hk hcl) hb3; have K3 : Hid (Keep c w (w3.alloc (.cells #[.int .i64 x3] 3))) := (K2.out.trans hk).call hb3; have HC3 : Hid (Cu (w3.alloc (.cells #[.int .i64 x3] 3)) c a len cap) := hc.call hb3; have hs3 := K3.out.size; clear hc hk hb3)
    | (at_builtin; refine wpList_append_own _ rfl _ _ 32 rfl w.heap.size 3 i0 (.int .i64 0) 1 8 Try.underlying32 hi hz0 hz1 hz2 rfl (by decide) _ _ _ rfl HO3 ⟨w3.heap.size, 0, none⟩ 1 1 [.int .i64 x3] rfl rfl (one_new _ _ _) (by simp [Value.oneCell']) (by unfold maxLen; omega) (by omega) hs3 ?_; intro v4 w4 hown' hgrow _; have HB4 : Hid (Below w.heap.size (w3.alloc (.cells #[.int .i64 x3] 3)) w4) := grown_below (Below.refl w.heap.size _) hs3 HO3 hgrow; rw [ils_app] at hown'; have HO4 : Hid (w4.ownsRow w.heap.size 3 1 v4 (n1 + 1) (ils (fun i => if i = n1 then x3 else ys1 i) (n1 + 1))) := hown'; have HC4 : Hid (Cu w4 c a len cap) := HC.out.grow HC3.out K3.out HB4.out; have K4 : Hid (Keep c w w4) := K3.out.below HB4.out; have M4 : Hid True := trivial; clear hown' hgrow HO3)
    | (go_at_call 31; have Z := M4; (fail_if_success have := M5); refine (once_x HC4.out 80).mono ?_; rintro e w5 ⟨x5, rfl, hc, hk⟩; have M5 : Hid True := trivial; have NE5 : Hid _ := own_ne (own_keep HO4.out hk hcl) hcl; have HI5 : Hid (Il w5 v4 (n1 + 1) (fun i => if i = n1 then x3 else ys1 i)) := il_of_own (own_keep HO4.out hk hcl); have HC5 : Hid (Cu w5 c a len cap) := hc; have K5 : Hid (Keep c w w5) := K4.out.trans hk; clear hc hk)
    | (go_at_call 31; (fail_if_success have := M4); (fail_if_success have := M5); refine (once_x HC2.out 80).mono ?_; rintro e w5 ⟨x5, rfl, hc, hk⟩; have M5 : Hid True := trivial; have NE5' : Hid _ := own_ne (own_keep HO2.out hk hcl) hcl; have HI5' : Hid (Il w5 u1 n1 ys1) := il_of_own (own_keep HO2.out hk hcl); have HC5 : Hid (Cu w5 c a len cap) := hc; have K5 : Hid (Keep c w w5) := K2.out.trans hk; clear hc hk)
    | (go_at_call 32; refine (below_x HC5.out 2).mono ?_; rintro e w6 ⟨x6, h60, _, h62, rfl, hc, hk⟩; have h63 := h62 (by omega); obtain ⟨t, rfl⟩ := Int.eq_ofNat_of_zero_le h60; have HC6 : Hid (Cu w6 c a len cap) := hc; have K6 : Hid (Keep c w w6) := K5.out.trans hk; clear hc hk h62)
    | (at_make; refine wpList_make_full _ rfl _ _ 32 rfl w.heap.size 3 i0 (.int .i64 0) 1 Try.underlying32 hi hz0 hz1 .i64 .i64 _ _ (512 + t) rfl rfl (by omega) (by omega) (by rw [hz2]; omega) (by unfold maxLen; omega) K6.out.size ?_; intro w7 hown hgrow; have HB7 : Hid (Below w6.heap.size w6 w7) := (Below.refl _ _).grown hgrow (Nat.le_refl _) (fun _ h => by cases h); rw [made_ils] at hown; have NE7 : Hid _ := own_ne hown hcl; have HI7 : Hid (Il w7 (.slice (some ⟨w6.heap.size, 0, none⟩) (512 + t) (512 + t)) (512 + t) (fun _ => 0)) := il_of_own hown; clear hown hgrow))
  all_goals
    go_ret
    first
      | exact ⟨_, _, _, rfl, by omega, HI7.out, NE7.out, HC6.out.call HB7.out, K6.out.call HB7.out⟩
      | exact ⟨_, _, _, rfl, by omega, HI5.out, NE5.out, HC5.out, K5.out⟩
      | exact ⟨_, _, _, rfl, by omega, HI5'.out, NE5'.out, HC5.out, K5.out⟩
end Go.Proofs.Ytnabpijackgmnaa
