/- Adapt: what is drawn, all of it. -/
import Derived.Test.YtbkkjbehmpmjeaaGA
namespace Go.Proofs.Ytbkkjbehmpmjeaa
open Go.RowKit

/-- A row that lies below H is as it was where nothing below H has turned. -/
theorem own_low {w w' : World} {B s n H : Nat} {e : TypeId} {v : Value} {xs : List Value} (h : w.ownsRow B e s v n xs) (hb : Below H w w') (hv : ∀ g, v.ownBlock = some g → g < H) : w'.ownsRow B e s v n xs := by
  refine ⟨h.1, ?_⟩
  rcases h.2 with h' | ⟨g', cap', cur, rfl, hb', hg, rest⟩
  · exact .inl h'
  · exact .inr ⟨g', cap', cur, rfl, hb', (hb.block g' (hv g' rfl)).trans hg, rest⟩

theorem own_lt2 {w : World} {B s n : Nat} {e : TypeId} {v : Value} {xs : List Value} (h : w.ownsRow B e s v n xs) : ∀ g, v.ownBlock = some g → g < w.heap.size := fun g hg => (World.ownsRow.lt h g hg).2

/-- What stands behind the draws: both lists in memory apart from the cursor. -/
structure Ud (w X : World) (c : Nat) (a : Option Addr) (len cap : Nat) (u v : Value) : Prop where
  l1 : ∃ n ys B, n ≤ 65 ∧ c < B ∧ X.ownsRow B 3 1 u n (ils ys n)
  l2 : ∃ n ys B, n ≤ 65 ∧ c < B ∧ X.ownsRow B 3 1 v n (ils ys n)
  bw : Below w.heap.size w X
  cu : Cu X c a len cap

theorem Ud.keep {w X X' : World} {c : Nat} {a : Option Addr} {len cap : Nat} {u v : Value} (h : Ud w X c a len cap u v) (hk : Keep c X X') (hc : Cu X' c a len cap) (hw : w.heap.size ≤ c) : Ud w X' c a len cap u v := by
  obtain ⟨n, ys, B, h1, h2, h3⟩ := h.l1
  obtain ⟨m, zs, B', g1, g2, g3⟩ := h.l2
  exact ⟨⟨n, ys, B, h1, h2, own_keep h3 hk h2⟩, ⟨m, zs, B', g1, g2, own_keep g3 hk g2⟩, Below.keep h.bw hk hw, hc⟩

set_option maxHeartbeats 4000000 in
theorem dadapt_x {w : World} {a : Option Addr} {len cap : Nat} (hr : Row w a len) (hl : len ≤ 1048576) :
    Calls Try.prog 5 #[.slice a len cap] w fun e w' => ∃ (t b : Int) (u v : Value), e = .returned (.tuple #[.int .i64 t, .int .i64 b, u, v]) ∧ Hid ((∃ n ys, n ≤ 65 ∧ Il w' u n ys) ∧ (∃ n ys, n ≤ 65 ∧ Il w' v n ys) ∧ Below w.heap.size w w') := by
  obtain ⟨i0, hi, hz0, hz1, hz2⟩ := info_parts Try.info3
  have HR : Hid (Row w a len) := hr
  clear hr
  obtain ⟨c, hcd⟩ : ∃ c, w.heap.size = c := ⟨_, rfl⟩
  have HN : Hid (Calls Try.prog 10 #[.slice a len cap] w fun e w' => e = .returned (.pointer (some ⟨c, 0, none⟩)) ∧ Cu w' c a len cap ∧ Below w.heap.size w w') := by have := new_x (cap := cap) HR.out (by omega); rw [← hcd]; exact this
  have HCD : Hid (w.heap.size ≤ c) := Nat.le_of_eq hcd
  have P8 : ∀ W, Cu W c a len cap → Calls Try.prog 14 #[.pointer (some ⟨c, 0, none⟩), .slice (some ⟨W.heap.size, 0, none⟩) 8 8] (W.alloc (.cells #[.int .i64 1, .int .i64 2, .int .i64 4, .int .i64 8, .int .i64 64, .int .i64 65, .int .i64 0, .int .i64 3] 3)) fun e w' => ∃ x : Int, e = .returned (.int .i64 x) ∧ Cu w' c a len cap ∧ Keep c W w' := fun W hW => pick_lit [1, 2, 4, 8, 64, 65, 0, 3] (by decide) (by decide) hW
  have P9 : ∀ W, Cu W c a len cap → Calls Try.prog 14 #[.pointer (some ⟨c, 0, none⟩), .slice (some ⟨W.heap.size, 0, none⟩) 9 9] (W.alloc (.cells #[.int .i64 0, .int .i64 6, .int .i64 10, .int .i64 14, .int .i64 20, .int .i64 40, .int .i64 41, .int .i64 (-1), .int .i64 12] 3)) fun e w' => ∃ x : Int, e = .returned (.int .i64 x) ∧ Cu w' c a len cap ∧ Keep c W w' := fun W hW => pick_lit [0, 6, 10, 14, 20, 40, 41, -1, 12] (by decide) (by decide) hW
  clear hcd
  go_enter Try.func5, Try.ntmps5
  go_wp2_with (first
    | (go_at_call 10; refine HN.out.mono ?_; rintro e w1 ⟨rfl, hc, hb⟩; have HC1 : Hid (Cu w1 c a len cap) := hc; have B1 : Hid (Below w.heap.size w w1) := hb; clear hc hb)
    | (go_at_call 12; refine (size_x a len cap 30 hl).mono ?_; rintro e w' ⟨z, rfl, hz5, _, hz6, hw⟩; obtain rfl := hw.symm; have hz7 := hz6 (by omega); clear hz6)
    | (go_at_call 11; refine (dsm_x HC1.out z (by omega)).mono ?_; rintro e w2 ⟨u, n, ys, rfl, hn, hI, hc, hk⟩; have F2 : Hid (w2.ownsRow w1.heap.size 3 1 u n (ils ys n)) := hI; have L2 : Hid (c < w1.heap.size) := HC1.out.lt; have HC2 : Hid (Cu w2 c a len cap) := hc; have B2 : Hid (Below w.heap.size w w2) := Below.keep B1.out hk HCD.out; clear hc hk hI))
  have O0 : Hid ((w2.alloc (.cells #[] 3)).ownsRow w2.heap.size 3 1 (.slice (some ⟨w2.heap.size, 0, none⟩) 0 0) 0 (ils (fun _ => 0) 0)) := own_empty w2 3 1
  have K0 : Hid (Below w2.heap.size w2 (w2.alloc (.cells #[] 3))) := below_one _ _
  obtain ⟨ao, cp, hu, hcp, hcc⟩ := il_of_own F2.out
  have IL : Hid (Il w2 u n ys) := il_of_own F2.out
  subst hu
  have HCC : Hid (0 < n → ∃ b off, ao = some ⟨b, off, none⟩ ∧ b < w2.heap.size ∧ ∀ k, k < n → w2.cell? ⟨b, off + k, none⟩ = some (.int .i64 (ys k))) := hcc
  clear hcc
  go_wp2
  go_loopw [8, 9, 10] (fun o l i wr => ∃ (k : Nat) (L : Int), i = .int .i64 k ∧ l = .int .i64 L ∧ k ≤ n ∧ Hid ((∃ zs, wr.ownsRow w2.heap.size 3 1 o k (ils zs k)) ∧ Below w2.heap.size w2 wr)) (fun _ _ i _ => n - (intOf i).toNat)
  case atStart => exact ⟨0, 0, rfl, rfl, by omega, ⟨_, O0.out⟩, K0.out⟩
  case round =>
    obtain ⟨k, L, rfl, rfl, hk, hrel⟩ := hrel
    by_cases h1 : k < n
    · obtain ⟨b, off, rfl, hlt, hcell⟩ := HCC.out (by omega)
      have c1 := (hrel.out.2.cell (p := ⟨b, off + k, none⟩) hlt).trans (hcell k h1)
      obtain ⟨zs, ho⟩ := hrel.out.1
      have HO : Hid (wr.ownsRow w2.heap.size 3 1 u8 k (ils zs k)) := ho
      have HB : Hid (Below w2.heap.size w2 wr) := hrel.out.2
      have hs := hrel.out.2.size
      clear hcell ho hrel
      generalize ys k = yk at c1
      go_wp2_with (first | (at_builtin; refine wpList_append_own _ rfl _ _ 24 rfl w2.heap.size 3 i0 (.int .i64 0) 1 8 Try.underlying24 hi hz0 hz1 hz2 rfl (by decide) _ _ _ rfl (own_below HO.out (below_one _ _)) ⟨wr.heap.size, 0, none⟩ 1 1 [.int .i64 _] rfl rfl (one_new _ _ _) (by simp [Value.oneCell']) (by unfold maxLen; omega) (by omega) (Nat.le_trans hs (below_one _ _).size) ?_))
      intro v' w4 hown' hgrow _
      have HB3 : Below w2.heap.size w2 (wr.alloc (.cells #[.int .i64 (wrap64 ((wrap64 (yk + L)).tdiv 2))] 3)) := bstep HB.out (below_one _ _)
      have HB4 : Hid (Below w2.heap.size w2 w4) := grown_below HB3 (Nat.le_refl _) (own_below HO.out (below_one _ _)) hgrow
      rw [ils_app] at hown'
      have HO4 : Hid (∃ zs, w4.ownsRow w2.heap.size 3 1 v' (k + 1) (ils zs (k + 1))) := ⟨_, hown'⟩
      have c4 : w4.cell? ⟨b, off + k, none⟩ = some (.int .i64 yk) := by
        have e1 := HB.out.cell (p := ⟨b, off + k, none⟩) hlt
        have e2 := HB4.out.cell (p := ⟨b, off + k, none⟩) hlt
        rw [e2, ← e1]; exact c1
      clear hown' hgrow HB3 c1
      go_wp2
      go_roundw
      case rel => exact ⟨k + 1, yk, by go_num, rfl, by omega, HO4.out, HB4.out⟩
      case measure => simp [intOf]; omega
    · obtain rfl : k = n := by omega
      obtain ⟨zs, ho⟩ := hrel.out.1
      have HO : Hid (wr.ownsRow w2.heap.size 3 1 u8 k (ils zs k)) := ho
      have HB : Hid (Below w2.heap.size w2 wr) := hrel.out.2
      have HC3 : Hid (Cu wr c a len cap) := HC2.out.call hrel.out.2
      have hcs : c < w2.heap.size := HC2.out.lt
      clear ho hrel
      go_wp2_with (first
        | (go_at_call 13; refine (once_x HC3.out 20).mono ?_; rintro e w5 ⟨x5, rfl, hc, hk⟩; have HO5 : Hid (w5.ownsRow w2.heap.size 3 1 u8 k (ils zs k)) := own_keep HO.out hk hcs; have HC5 : Hid (Cu w5 c a len cap) := hc; have K5 : Hid (Keep c wr w5) := hk; clear hc hk)
        | (at_builtin; refine wpList_append_own _ rfl _ _ 24 rfl w2.heap.size 3 i0 (.int .i64 0) 1 8 Try.underlying24 hi hz0 hz1 hz2 rfl (by decide) _ _ _ rfl (own_below HO5.out (below_one _ _)) ⟨w5.heap.size, 0, none⟩ 1 1 [.int .i64 0] rfl rfl (one_new _ _ _) (by simp [Value.oneCell']) (by unfold maxLen; omega) (by omega) (Nat.le_trans HB.out.size (Nat.le_trans K5.out.size (below_one _ _).size)) ?_; intro v7 w7 hown' hgrow _; rw [ils_app] at hown'; have HO7 : Hid (∃ zs, w7.ownsRow w2.heap.size 3 1 v7 (k + 1) (ils zs (k + 1))) := ⟨_, hown'⟩; have B7 : Hid (Below w2.heap.size (w5.alloc (.cells #[.int .i64 0] 3)) w7) := grown_below (Below.refl w2.heap.size _) (Nat.le_trans HB.out.size (Nat.le_trans K5.out.size (below_one _ _).size)) (own_below HO5.out (below_one _ _)) hgrow; have M7 : Hid True := trivial; clear hown' hgrow)
        | (go_at_call 14; (fail_if_success have := Q1); have Z := M7; have U7 : Hid (Ud w w7 c a len cap (.slice ao k cp) v7) := (by obtain ⟨z7, h7⟩ := HO7.out; have hcu : Cu (w5.alloc (.cells #[.int .i64 0] 3)) c a len cap := HC5.out.call (below_one _ _); exact ⟨⟨_, _, _, by omega, L2.out, own_low (own_below (own_keep (own_below F2.out HB.out) K5.out L2.out) (below_one _ _)) B7.out (own_lt2 F2.out)⟩, ⟨_, _, _, by omega, hcs, h7⟩, (bstep (Below.keep (B2.out.trans (HB.out.mono B2.out.size)) K5.out HCD.out) (below_one _ _)).trans (B7.out.mono B2.out.size), HC2.out.grow hcu ((((Keep.refl c w2).call HB.out).trans K5.out).call (below_one _ _)) B7.out⟩); refine (P8 _ U7.out.cu).mono ?_; rintro e w8 ⟨x8, rfl, hc, hk⟩; have Q1 : Hid True := trivial; have U8 : Hid (Ud w w8 c a len cap (.slice ao k cp) v7) := U7.out.keep hk hc HCD.out; clear hc hk)
        | (go_at_call 14; (fail_if_success have := Q1); have U5 : Hid (Ud w w5 c a len cap (.slice ao k cp) u8) := ⟨⟨_, _, _, by omega, L2.out, own_keep (own_below F2.out HB.out) K5.out L2.out⟩, ⟨_, _, _, by omega, hcs, HO5.out⟩, Below.keep (B2.out.trans (HB.out.mono B2.out.size)) K5.out HCD.out, HC5.out⟩; refine (P8 _ U5.out.cu).mono ?_; rintro e w8 ⟨x8, rfl, hc, hk⟩; have Q1 : Hid True := trivial; have U8 : Hid (Ud w w8 c a len cap (.slice ao k cp) u8) := U5.out.keep hk hc HCD.out; clear hc hk)
        | (go_at_call 14; have Z := Q1; refine (P9 _ U8.out.cu).mono ?_; rintro e w9 ⟨x9, rfl, hc, hk⟩; have U9 : Hid (Ud w w9 c a len cap _ _) := U8.out.keep hk hc HCD.out; clear hc hk))
      all_goals
        obtain ⟨n1, y1, b1, q1, _, q2⟩ := U9.out.l1
        obtain ⟨n2, y2, b2, q3, _, q4⟩ := U9.out.l2
      · refine bodyPost_ret (v := .tuple #[.int .i64 x8, .int .i64 x9, .slice ao k cp, v7]) (by simp [results, Try.results5, go_sem]) rfl ?_
        exact ⟨_, _, _, _, rfl, ⟨n1, y1, q1, il_of_own q2⟩, ⟨n2, y2, q3, il_of_own q4⟩, U9.out.bw⟩
      · refine bodyPost_ret (v := .tuple #[.int .i64 x8, .int .i64 x9, .slice ao k cp, u8]) (by simp [results, Try.results5, go_sem]) rfl ?_
        exact ⟨_, _, _, _, rfl, ⟨n1, y1, q1, il_of_own q2⟩, ⟨n2, y2, q3, il_of_own q4⟩, U9.out.bw⟩
end Go.Proofs.Ytbkkjbehmpmjeaa
