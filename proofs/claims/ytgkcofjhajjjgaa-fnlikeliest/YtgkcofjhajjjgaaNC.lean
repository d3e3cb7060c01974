/- A message and places that are hurt, drawn. -/
import Derived.Test.YtgkcofjhajjjgaaD4
import Derived.Test.YtgkcofjhajjjgaaLF
namespace Go.Proofs.Ytgkcofjhajjjgaa
open Go.RowKit

set_option maxHeartbeats 2000000 in
theorem dbits_x {w : World} {c : Nat} {a : Option Addr} {len cap : Nat} (h : Cu w c a len cap) (m : Int) (hm : 0 ≤ m ∧ m ≤ 60) :
    Calls Try.prog 29 #[.pointer (some ⟨c, 0, none⟩), .int .i64 m] w fun e w' => ∃ u n ys, e = .returned u ∧ ((n : Nat) : Int) ≤ m ∧ (∀ k, k < n → Bit (ys k)) ∧ w'.ownsRow w.heap.size 3 1 u n (ils ys n) ∧ Cu w' c a len cap ∧ Keep c w w' := by
  obtain ⟨i0, hi, hz0, hz1, hz2⟩ := info_parts Try.info3
  have HC : Hid (Cu w c a len cap) := h
  have hcl := h.lt
  have HD : Hid (Cu (w.alloc (.cells #[] 3)) c a len cap) := h.call (below_one _ _)
  clear h
  go_enter Try.func29, Try.ntmps29
  go_wp2_with (go_at_call 30; refine (below_x HD.out (m + 1)).mono ?_; rintro e w1 ⟨j0, hj0, _, hj1, rfl, hc, hk⟩; have hj2 := hj1 (by omega); have HC1 : Hid (Cu w1 c a len cap) := hc; have K1 : Hid (Keep c (w.alloc (.cells #[] 3)) w1) := hk; clear hc hk hj1)
  obtain ⟨j, rfl⟩ := Int.eq_ofNat_of_zero_le hj0
  go_loopw [5, 6] (fun o i wr => ∃ (q k : Nat), i = .int .i64 q ∧ ((q + k : Nat) : Int) ≤ m ∧ Hid ((∃ ys, (∀ k', k' < k → Bit (ys k')) ∧ wr.ownsRow w.heap.size 3 1 o k (ils ys k)) ∧ Cu wr c a len cap ∧ Keep c w wr)) (fun _ i _ => (intOf i).toNat)
  case atStart => exact ⟨j, 0, rfl, by omega, ⟨fun _ => 0, fun k' h9 => by omega, own_keep (own_empty w 3 1) K1.out hcl⟩, HC1.out, ((Keep.refl _ _).call (below_one _ _)).trans K1.out⟩
  case round =>
    obtain ⟨q, k, rfl, hq, hcur⟩ := hrel
    by_cases h1 : 0 < q
    · obtain ⟨ys, hbt, ho⟩ := hcur.out.1
      have HO : Hid _ := ho
      have HBT : Hid (∀ k', k' < k → Bit (ys k')) := hbt
      clear ho hbt
      go_wp2_with (first | (go_at_call 30; refine (below_x hcur.out.2.1 2).mono ?_; rintro e w2 ⟨x2, hx0, _, hx1, rfl, hc, hk⟩; have hx2 := hx1 (by omega); have hb3 := below_one w2 (.cells #[.int .i64 x2] 3); have HO3 := own_below (own_keep HO.out hk hcl) hb3; have K2 : Hid (Keep c w (w2.alloc (.cells #[.int .i64 x2] 3))) := (hcur.out.2.2.trans hk).call hb3; have HC3 : Hid (Cu (w2.alloc (.cells #[.int .i64 x2] 3)) c a len cap) := hc.call hb3; have hs3 := K2.out.size; clear hc hk hb3 hx1) | (at_builtin; refine wpList_append_own _ rfl _ _ 24 rfl w.heap.size 3 i0 (.int .i64 0) 1 8 Try.underlying24 hi hz0 hz1 hz2 rfl (by decide) _ _ _ rfl HO3 ⟨w2.heap.size, 0, none⟩ 1 1 [.int .i64 x2] rfl rfl (one_new _ _ _) (by simp [Value.oneCell']) (by unfold maxLen; omega) (by omega) hs3 ?_))
      intro v' w4 hown' hgrow _
      have HB4 : Hid (Below w.heap.size (w2.alloc (.cells #[.int .i64 x2] 3)) w4) := grown_below (Below.refl w.heap.size _) hs3 HO3 hgrow
      rw [ils_app] at hown'
      have HO4 : Hid _ := hown'
      clear hown' hgrow HO3
      go_wp2
      go_roundw
      case rel =>
        refine ⟨q - 1, k + 1, by congr 1; omega, by omega, ⟨_, fun k' hk' => ?_, HO4.out⟩, HC.out.grow HC3.out K2.out HB4.out, K2.out.below HB4.out⟩
        show Bit (if k' = k then x2 else ys k')
        split
        · unfold Bit; omega
        · exact HBT.out k' (by omega)
      case measure => simp [intOf]; omega
    · obtain rfl : q = 0 := by omega
      obtain ⟨ys, hbt, ho⟩ := hcur.out.1
      have HO : Hid _ := ho
      have HBT : Hid _ := hbt
      clear ho hbt
      go_wp2
      go_ret
      exact ⟨_, k, ys, rfl, by omega, HBT.out, HO.out, hcur.out.2.1, hcur.out.2.2⟩

theorem own_pos2 {w : World} {B n : Nat} {v : Value} {L : List Value} (h : w.ownsRow B 3 1 v n L) (hn : 0 < n) : ∃ g cp, v = .slice (some ⟨g, 0, none⟩) n cp := by
  rcases h.2 with ⟨rfl, h9⟩ | ⟨g, cp, cur, rfl, _⟩
  · omega
  · exact ⟨g, cp, rfl⟩

/-- Places that are hurt: q of them, below N, no two alike. -/
def Plc (N q : Nat) (ps : Nat → Int) : Prop := q ≤ 2 ∧ (∀ k, k < q → 0 ≤ ps k ∧ ps k < (N : Int)) ∧ (q = 2 → ps 0 ≠ ps 1)

set_option maxRecDepth 20000 in
set_option maxHeartbeats 4000000 in
theorem dnoisy_x {w : World} {a : Option Addr} {len cap : Nat} (hr : Row w a len) (hl : len ≤ 1048576) :
    Calls Try.prog 10 #[.slice a len cap] w fun e w' => ∃ u n ys v q ps, e = .returned (.tuple #[u, v]) ∧ n ≤ 30 ∧ (∀ k, k < n → Bit (ys k)) ∧ Plc (2 * (n + 2)) q ps ∧ Il w' u n ys ∧ Il w' v q ps ∧ Below w.heap.size w w' := by
  obtain ⟨i0, hi, hz0, hz1, hz2⟩ := info_parts Try.info3
  have HR : Hid (Row w a len) := hr
  clear hr
  obtain ⟨c, hcd⟩ : ∃ c, w.heap.size = c := ⟨_, rfl⟩
  have HN : Hid (Calls Try.prog 28 #[.slice a len cap] w fun e w' => e = .returned (.pointer (some ⟨c, 0, none⟩)) ∧ Cu w' c a len cap ∧ Below w.heap.size w w') := by have := new_x (cap := cap) HR.out (by omega); rw [← hcd]; exact this
  go_enter Try.func10, Try.ntmps10
  go_upto_region 4 with (first
    | (go_at_call 28; refine HN.out.mono ?_; rintro e w1 ⟨rfl, hc, hb⟩; have HC : Hid (Cu w1 c a len cap) := hc; have B1 : Hid (Below w.heap.size w w1) := hb; have LC : Hid (c < w1.heap.size) := hc.lt; clear hc hb)
    | (go_at_call 29; refine (dbits_x HC.out 30 (by omega)).mono ?_; rintro e w2 ⟨u, n, ys, rfl, hn, hbt, ho, hc, hk⟩; have HU2 : Hid (w2.ownsRow w1.heap.size 3 1 u n (ils ys n)) := ho; have HBT : Hid (∀ k, k < n → Bit (ys k)) := hbt; have HC2 : Hid (Cu w2 c a len cap) := hc; have K2 : Hid (Keep c w1 w2) := hk; obtain ⟨uo, ucp, hu9, _, _⟩ := il_of_own ho; subst hu9; clear ho hc hk hbt))
  have LC2 : Hid (c < w2.heap.size) := HC2.out.lt
  have HD : Hid (Cu (w2.alloc (.cells #[] 3)) c a len cap) := HC2.out.call (below_one _ _)
  go_wp2_with (go_at_call 30; refine (below_x HD.out 3).mono ?_; rintro e w3 ⟨j0, hj0, _, hj1, rfl, hc, hk⟩; have hj2 := hj1 (by omega); have HC3 : Hid (Cu w3 c a len cap) := hc; have K3 : Hid (Keep c w2 w3) := ((Keep.refl _ _).call (below_one _ _)).trans hk; have OE : Hid (w3.ownsRow w2.heap.size 3 1 (.slice (some ⟨w2.heap.size, 0, none⟩) 0 0) 0 (ils (fun _ => 0) 0)) := own_keep (own_empty w2 3 1) hk LC2.out; clear hc hk hj1)
  obtain ⟨j, rfl⟩ := Int.eq_ofNat_of_zero_le hj0
  obtain ⟨N, hN⟩ : ∃ N : Nat, N = 2 * (n + 2) := ⟨_, rfl⟩
  have eN : 2 * ((n : Int) + 2) = (N : Int) := by omega
  have HNN : Hid (N = 2 * (n + 2)) := hN
  rw [eN]
  have hN0 : 0 < N ∧ N ≤ 64 := by omega
  clear hN eN
  go_loopw [7, 8, 9] (fun o i _ wr => ∃ (r q g cp : Nat), i = .int .i64 r ∧ r + q ≤ 2 ∧ o = .slice (some ⟨g, 0, none⟩) q cp ∧ Hid ((∃ ps, Plc N q ps ∧ wr.ownsRow w2.heap.size 3 1 (.slice (some ⟨g, 0, none⟩) q cp) q (ils ps q)) ∧ Cu wr c a len cap ∧ Keep c w2 wr)) (fun _ i _ _ => (intOf i).toNat)
  case atStart => exact ⟨j, 0, w2.heap.size, 0, rfl, by omega, rfl, ⟨_, ⟨by omega, fun k hk => by omega, fun h => by omega⟩, OE.out⟩, HC3.out, K3.out⟩
  case round =>
    obtain ⟨r, q, g, cp, rfl, hrq, rfl, hcur⟩ := hrel
    obtain ⟨ps, hpl, ho⟩ := hcur.out.1
    have HPL : Hid (Plc N q ps) := hpl
    have HO : Hid (wr.ownsRow w2.heap.size 3 1 (.slice (some ⟨g, 0, none⟩) q cp) q (ils ps q)) := ho
    have HC4 : Hid (Cu wr c a len cap) := hcur.out.2.1
    have K4 : Hid (Keep c w2 wr) := hcur.out.2.2
    clear hcur hpl ho
    by_cases h1 : 0 < r
    · by_cases h2 : q = 0
      · subst h2
        go_wp2_with (first | (go_at_call 30; refine (below_x HC4.out (N : Int)).mono ?_; rintro e w5 ⟨x2, hx0, _, hx1, rfl, hc, hk⟩; have hx2 := hx1 (by omega); have hb3 := below_one w5 (.cells #[.int .i64 x2] 3); have HO3 := own_below (own_keep HO.out hk LC2.out) hb3; have K5 : Hid (Keep c w2 (w5.alloc (.cells #[.int .i64 x2] 3))) := (K4.out.trans hk).call hb3; have HC5 : Hid (Cu (w5.alloc (.cells #[.int .i64 x2] 3)) c a len cap) := hc.call hb3; have hs3 := K5.out.size; clear hc hk hb3 hx1) | (at_builtin; refine wpList_append_own _ rfl _ _ 24 rfl w2.heap.size 3 i0 (.int .i64 0) 1 8 Try.underlying24 hi hz0 hz1 hz2 rfl (by decide) _ _ _ rfl HO3 ⟨w5.heap.size, 0, none⟩ 1 1 [.int .i64 x2] rfl rfl (one_new _ _ _) (by simp [Value.oneCell']) (by unfold maxLen; omega) (by omega) hs3 ?_))
        intro v' w6 hown' hgrow _
        have HB6 : Hid (Below w2.heap.size (w5.alloc (.cells #[.int .i64 x2] 3)) w6) := grown_below (Below.refl w2.heap.size _) hs3 HO3 hgrow
        rw [ils_app] at hown'
        obtain ⟨g6, cp6, rfl⟩ := own_pos2 hown' (by omega)
        have HO6 : Hid _ := hown'
        clear hown' hgrow HO3
        go_wp2
        go_roundw
        case rel =>
          refine ⟨r - 1, 1, g6, cp6, by congr 1; omega, by omega, rfl, ⟨_, ?_, HO6.out⟩, HC2.out.grow HC5.out K5.out HB6.out, K5.out.below HB6.out⟩
          refine ⟨by omega, fun k hk => ?_, fun h => by omega⟩
          obtain rfl : k = 0 := by omega
          show 0 ≤ (if (0 : Nat) = 0 then x2 else ps 0) ∧ (if (0 : Nat) = 0 then x2 else ps 0) < (N : Int)
          rw [if_pos rfl]
          omega
        case measure => simp [intOf]; omega
      · obtain rfl : q = 1 := by omega
        have d0 : ∀ W, Keep c wr W → W.cell? ⟨g, 0, none⟩ = some (.int .i64 (ps 0)) := fun W hW => by
          have h9 := World.ownsRow.cellAt (own_keep HO.out hW LC2.out) 0 (by omega)
          rw [ils_get (by omega)] at h9
          exact h9
        have D0 : Hid (∀ W, Keep c wr W → W.cell? ⟨g, 0, none⟩ = some (.int .i64 (ps 0))) := d0
        clear d0
        go_upto_region 9 with (first | (go_at_call 30; refine (below_x HC4.out (N : Int)).mono ?_; rintro e w5 ⟨x2, hx0, _, hx1, rfl, hc, hk⟩; have hx2 := hx1 (by omega); have dd := D0.out _ hk; have O5 : Hid (w5.ownsRow w2.heap.size 3 1 (.slice (some ⟨g, 0, none⟩) 1 cp) 1 (ils ps 1)) := own_keep HO.out hk LC2.out; have K5 : Hid (Keep c w2 w5) := K4.out.trans hk; have HC5 : Hid (Cu w5 c a len cap) := hc; clear hc hk hx1))
        by_cases h3 : ps 0 = x2
        · rw [h3] at dd
          have h4 : (x2 != x2) = false := by simp
          clear h3
          go_wp2
          go_roundw
          case rel => exact ⟨r - 1, 1, g, cp, by congr 1; omega, by omega, rfl, ⟨ps, HPL.out, O5.out⟩, HC5.out, K5.out⟩
          case measure => simp [intOf]; omega
        · have h4 : (ps 0 != x2) = true := by simp [h3]
          have H3 : Hid (¬ ps 0 = x2) := h3
          have hb3 := below_one w5 (.cells #[.int .i64 x2] 3)
          have HO3 := own_below O5.out hb3
          have K6 : Hid (Keep c w2 (w5.alloc (.cells #[.int .i64 x2] 3))) := K5.out.call hb3
          have HC6 : Hid (Cu (w5.alloc (.cells #[.int .i64 x2] 3)) c a len cap) := HC5.out.call hb3
          have hs3 := K6.out.size
          clear hb3 h3
          go_wp2_with (first | (at_builtin; refine wpList_append_own _ rfl _ _ 24 rfl w2.heap.size 3 i0 (.int .i64 0) 1 8 Try.underlying24 hi hz0 hz1 hz2 rfl (by decide) _ _ _ rfl HO3 ⟨w5.heap.size, 0, none⟩ 1 1 [.int .i64 x2] rfl rfl (one_new _ _ _) (by simp [Value.oneCell']) (by unfold maxLen; omega) (by omega) hs3 ?_))
          intro v' w6 hown' hgrow _
          have HB6 : Hid (Below w2.heap.size (w5.alloc (.cells #[.int .i64 x2] 3)) w6) := grown_below (Below.refl w2.heap.size _) hs3 HO3 hgrow
          rw [ils_app] at hown'
          obtain ⟨g6, cp6, rfl⟩ := own_pos2 hown' (by omega)
          have HO6 : Hid _ := hown'
          clear hown' hgrow HO3
          go_wp2
          go_roundw
          case rel =>
            refine ⟨r - 1, 2, g6, cp6, by congr 1; omega, by omega, rfl, ⟨_, ?_, HO6.out⟩, HC2.out.grow HC6.out K6.out HB6.out, K6.out.below HB6.out⟩
            have hp := HPL.out.2.1 0 (by omega)
            refine ⟨by omega, fun k hk => ?_, fun _ => ?_⟩
            · show 0 ≤ (if k = 1 then x2 else ps k) ∧ (if k = 1 then x2 else ps k) < (N : Int)
              by_cases e : k = 1
              · rw [if_pos e]; omega
              · rw [if_neg e]
                obtain rfl : k = 0 := by omega
                exact hp
            · show (if (0 : Nat) = 1 then x2 else ps 0) ≠ (if (1 : Nat) = 1 then x2 else ps 1)
              rw [if_neg (by omega), if_pos rfl]
              exact H3.out
          case measure => simp [intOf]; omega
    · obtain rfl : r = 0 := by omega
      go_wp2
      go_ret2
      rw [HNN.out] at HPL
      exact ⟨_, n, ys, _, q, ps, rfl, by omega, HBT.out, HPL.out, il_of_own (own_keep HU2.out K4.out LC.out), il_of_own HO.out, Below.keep B1.out (K2.out.trans K4.out) (Nat.le_of_eq hcd)⟩
end Go.Proofs.Ytgkcofjhajjjgaa
