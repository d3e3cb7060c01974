/- Draws of signals. -/
import Derived.Test.YtgkcofjhajjjgaaD1
import Derived.Test.YtgkcofjhajjjgaaC1
namespace Go.Proofs.Ytgkcofjhajjjgaa
open Go.RowKit

theorem own_keep {w w' : World} {B s n c : Nat} {e : TypeId} {v : Value} {xs : List Value} (h : w.ownsRow B e s v n xs) (hk : Keep c w w') (hc : c < B) : w'.ownsRow B e s v n xs := by
  refine ⟨h.1, ?_⟩
  rcases h.2 with h' | ⟨g', cap', cur, h', hb', hg, rest⟩
  · exact .inl h'
  · exact .inr ⟨g', cap', cur, h', hb', (hk.block g' (by omega) (Array.getElem?_eq_some_iff.1 hg).1).trans hg, rest⟩

theorem Keep.below {c : Nat} {w W w' : World} (h : Keep c w W) (hb : Below w.heap.size W w') : Keep c w w' :=
  ⟨hb.os.trans h.os, hb.tape.trans h.tape, hb.output.trans h.output, Nat.le_trans h.size hb.size, fun k hk hl => (hb.block k hl).trans (h.block k hk hl)⟩

theorem Row.keep {w w' : World} {a : Option Addr} {n c : Nat} (h : Row w a n) (hac : ∀ x : Addr, 0 < n → a = some x → x.block ≠ c) (hk : Keep c w w') : Row w' a n := by
  intro i hi
  obtain ⟨b, off, z, rfl, hlt, hc, h0, h1⟩ := h i hi
  have hbc : b ≠ c := hac _ (by omega) rfl
  exact ⟨b, off, z, rfl, Nat.lt_of_lt_of_le hlt hk.size, (hk.cell (p := ⟨b, off + i, none⟩) hbc hlt).trans hc, h0, h1⟩

/-- What grows behind w leaves a cursor of w a cursor. -/
theorem Cu.grow {w W w' : World} {c : Nat} {a : Option Addr} {len cap : Nat} (h0 : Cu w c a len cap) (h : Cu W c a len cap) (hk : Keep c w W) (hb : Below w.heap.size W w') : Cu w' c a len cap := by
  obtain ⟨hr, hac, hsh, hlt, hb0, ⟨i, hh, hi0, hi1, hci, hch⟩, hfz⟩ := h
  exact ⟨h0.row.keep hac (hk.below hb), hac, hsh, Nat.lt_of_lt_of_le hlt hb.size, (hb.cell h0.lt).trans hb0, ⟨i, hh, hi0, hi1, (hb.cell h0.lt).trans hci, (hb.cell h0.lt).trans hch⟩, fun o => (hb.frozen h0.lt).trans (hfz o)⟩

theorem ils_app (f : Nat → Int) (k : Nat) (x : Int) : ils f k ++ [.int .i64 x] = ils (fun i => if i = k then x else f i) (k + 1) := by
  rw [ils_snoc]
  congr 1
  · apply ils_congr
    intro i hi
    simp [show ¬ i = k by omega]
  · simp

theorem made_ils (n : Nat) : (madeCells (Value.int .i64 0).cells (n * 1)).toList = ils (fun _ => 0) n := by
  have e : (Value.int .i64 0).cells = #[.int .i64 0] := by simp [Value.cells]
  rw [e]
  apply List.ext_getElem
  · simp [madeCells, ils]
  · intro i h1 h2
    simp [madeCells, ils, Nat.mod_one]

set_option maxHeartbeats 2000000 in
theorem dsample_x {w : World} {c : Nat} {a : Option Addr} {len cap : Nat} (h : Cu w c a len cap) :
    Calls Try.prog 63 #[.pointer (some ⟨c, 0, none⟩)] w fun e w' => ∃ x : Int, e = .returned (.int .i64 x) ∧ Cu w' c a len cap ∧ Keep c w w' := by
  have HC : Hid (Cu w c a len cap) := h
  clear h
  have P3 : ∀ W, Cu W c a len cap → Calls Try.prog 42 #[.pointer (some ⟨c, 0, none⟩), .slice (some ⟨W.heap.size, 0, none⟩) 3 3] (W.alloc (.cells #[.int .i64 1000000000, .int .i64 (-1000000000), .int .i64 0] 3)) fun e w' => ∃ x : Int, e = .returned (.int .i64 x) ∧ Cu w' c a len cap ∧ Keep c W w' := fun W hW => pick_lit [1000000000, -1000000000, 0] (by decide) (by decide) hW
  go_enter Try.func63, Try.ntmps63
  go_wp2_with (first
    | (go_at_call 30; (fail_if_success have := M1); (with_reducible refine (below_x HC.out 5).mono ?_); rintro e w1 ⟨x1, _, _, _, rfl, hc, hk⟩; have M1 : Hid True := trivial; have HC1 : Hid (Cu w1 c a len cap) := hc; have K1 : Hid (Keep c w w1) := hk; clear hc hk)
    | (go_at_call 30; (with_reducible refine (below_x HC1.out 21).mono ?_); rintro e w2 ⟨x2, _, _, _, rfl, hc, hk⟩; have HC1 : Hid (Cu w2 c a len cap) := hc; have K1 : Hid (Keep c w w2) := K1.out.trans hk; clear hc hk)
    | (go_at_call 30; (with_reducible refine (below_x HC1.out 65536).mono ?_); rintro e w3 ⟨x3, _, _, _, rfl, hc, hk⟩; have HC1 : Hid (Cu w3 c a len cap) := hc; have K1 : Hid (Keep c w w3) := K1.out.trans hk; clear hc hk)
    | (go_at_call 43; refine (once_x HC1.out 12).mono ?_; rintro e w4 ⟨x4, rfl, hc, hk⟩; have HC1 : Hid (Cu w4 c a len cap) := hc; have K1 : Hid (Keep c w w4) := K1.out.trans hk; clear hc hk)
    | (go_at_call 42; refine (P3 _ HC1.out).mono ?_; rintro e w5 ⟨x5, rfl, hc, hk⟩; have HC1 : Hid (Cu w5 c a len cap) := hc; have K1 : Hid (Keep c w w5) := K1.out.trans hk; clear hc hk)
    | (go_at_call 30; (with_reducible refine (below_x HC1.out 2001).mono ?_); rintro e w6 ⟨x6, _, _, _, rfl, hc, hk⟩; have HC1 : Hid (Cu w6 c a len cap) := hc; have K1 : Hid (Keep c w w6) := K1.out.trans hk; clear hc hk))
  all_goals
    go_ret
    exact ⟨_, rfl, HC1.out, K1.out⟩

set_option maxHeartbeats 2000000 in
theorem ddraw_x {w : World} {c : Nat} {a : Option Addr} {len cap : Nat} (h : Cu w c a len cap) (m : Int) (hm : 0 ≤ m ∧ m ≤ 60) :
    Calls Try.prog 48 #[.pointer (some ⟨c, 0, none⟩), .int .i64 m] w fun e w' => ∃ u n ys, e = .returned u ∧ n ≤ 61 ∧ w'.ownsRow w.heap.size 3 1 u n (ils ys n) ∧ Cu w' c a len cap ∧ Keep c w w' := by
  obtain ⟨i0, hi, hz0, hz1, hz2⟩ := info_parts Try.info3
  have HC : Hid (Cu w c a len cap) := h
  have hcl := h.lt
  have HD : Hid (Cu (w.alloc (.cells #[] 3)) c a len cap) := h.call (below_one _ _)
  clear h
  go_enter Try.func48, Try.ntmps48
  go_wp2_with (go_at_call 30; refine (below_x HD.out (m + 1)).mono ?_; rintro e w1 ⟨j0, hj0, _, hj1, rfl, hc, hk⟩; have hj2 := hj1 (by omega); have HC1 : Hid (Cu w1 c a len cap) := hc; have K1 : Hid (Keep c (w.alloc (.cells #[] 3)) w1) := hk; clear hc hk hj1)
  obtain ⟨j, rfl⟩ := Int.eq_ofNat_of_zero_le hj0
  go_loopw [5, 6] (fun o i wr => ∃ (q k : Nat), i = .int .i64 q ∧ q + k ≤ 61 ∧ Hid ((∃ ys, wr.ownsRow w.heap.size 3 1 o k (ils ys k)) ∧ Cu wr c a len cap ∧ Keep c w wr)) (fun _ i _ => (intOf i).toNat)
  case atStart => exact ⟨j, 0, rfl, by omega, ⟨fun _ => 0, own_keep (own_empty w 3 1) K1.out hcl⟩, HC1.out, ((Keep.refl _ _).call (below_one _ _)).trans K1.out⟩
  case round =>
    obtain ⟨q, k, rfl, hq, hcur⟩ := hrel
    by_cases h1 : 0 < q
    · obtain ⟨ys, ho⟩ := hcur.out.1
      have HO : Hid _ := ho
      clear ho
      go_wp2_with (first | (go_at_call 63; refine (dsample_x hcur.out.2.1).mono ?_; rintro e w2 ⟨x2, rfl, hc, hk⟩; have hb3 := below_one w2 (.cells #[.int .i64 x2] 3); have HO3 := own_below (own_keep HO.out hk hcl) hb3; have K2 : Hid (Keep c w (w2.alloc (.cells #[.int .i64 x2] 3))) := (hcur.out.2.2.trans hk).call hb3; have HC3 : Hid (Cu (w2.alloc (.cells #[.int .i64 x2] 3)) c a len cap) := hc.call hb3; have hs3 := K2.out.size; clear hc hk hb3) | (at_builtin; refine wpList_append_own _ rfl _ _ 24 rfl w.heap.size 3 i0 (.int .i64 0) 1 8 Try.underlying24 hi hz0 hz1 hz2 rfl (by decide) _ _ _ rfl HO3 ⟨w2.heap.size, 0, none⟩ 1 1 [.int .i64 x2] rfl rfl (one_new _ _ _) (by simp [Value.oneCell']) (by unfold maxLen; omega) (by omega) hs3 ?_))
      intro v' w4 hown' hgrow _
      have HB4 : Hid (Below w.heap.size (w2.alloc (.cells #[.int .i64 x2] 3)) w4) := grown_below (Below.refl w.heap.size _) hs3 HO3 hgrow
      rw [ils_app] at hown'
      have HO4 : Hid _ := hown'
      clear hown' hgrow HO3
      go_wp2
      go_roundw
      case rel => exact ⟨q - 1, k + 1, by congr 1; omega, by omega, ⟨_, HO4.out⟩, HC.out.grow HC3.out K2.out HB4.out, K2.out.below HB4.out⟩
      case measure => simp [intOf]; omega
    · obtain rfl : q = 0 := by omega
      obtain ⟨ys, ho⟩ := hcur.out.1
      have HO : Hid _ := ho
      clear ho
      go_wp2
      go_ret
      exact ⟨_, k, ys, rfl, by omega, HO.out, hcur.out.2.1, hcur.out.2.2⟩

end Go.Proofs.Ytgkcofjhajjjgaa
