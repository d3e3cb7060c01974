/- What is left of a drawn signal, and back: the law. -/
import Derived.Test.YtehemaodbbjfaaaUG
import Derived.Test.YtehemaodbbjfaaaD4
import Derived.BigQuiet
namespace Go.Proofs.Ytehemaodbbjfaaa
open Go.RowKit

set_option maxHeartbeats 2000000 in
theorem same_yes {w : World} {v u : Value} {n : Nat} {xs ys : Nat → Int} (hv : Il w v n xs) (hu : Il w u n ys) (hn : n ≤ 1048576) (he : ∀ k, k < n → xs k = ys k) :
    Calls Try.prog 15 #[v, u] w fun e w' => e = .returned (.bool true) ∧ Below w.heap.size w w' := by
  obtain ⟨ao, cap, rfl, hcap, hc⟩ := hv
  obtain ⟨bo, cap2, rfl, hcap2, hc2⟩ := hu
  have HC : Hid (0 < n → ∃ b off, ao = some ⟨b, off, none⟩ ∧ b < w.heap.size ∧ ∀ k, k < n → w.cell? ⟨b, off + k, none⟩ = some (.int .i64 (xs k))) := hc
  have HC2 : Hid (0 < n → ∃ b off, bo = some ⟨b, off, none⟩ ∧ b < w.heap.size ∧ ∀ k, k < n → w.cell? ⟨b, off + k, none⟩ = some (.int .i64 (xs k))) := fun h0 => by
    obtain ⟨b, off, h1, h2, h3⟩ := hc2 h0
    exact ⟨b, off, h1, h2, fun k hk => by rw [he k hk]; exact h3 k hk⟩
  clear hc hc2 he
  go_enter Try.func15, Try.ntmps15
  go_wp2
  go_loopw [5] (fun i wr => ∃ k : Nat, i = .int .i64 k ∧ k ≤ n ∧ Hid (Below w.heap.size w wr)) (fun i _ => n - (intOf i).toNat)
  case atStart => exact ⟨0, rfl, by omega, Below.refl _ _⟩
  case round =>
    obtain ⟨k, rfl, hk, hbl⟩ := hrel
    by_cases h1 : k < n
    · obtain ⟨b, off, rfl, hlt, hcell⟩ := HC.out (by omega)
      obtain ⟨b2, off2, rfl, hlt2, hcell2⟩ := HC2.out (by omega)
      have c1 : wr.cell? ⟨b, off + k, none⟩ = some (.int .i64 (xs k)) := (hbl.out.cell (p := ⟨b, off + k, none⟩) hlt).trans (hcell k h1)
      have c2 : wr.cell? ⟨b2, off2 + k, none⟩ = some (.int .i64 (xs k)) := (hbl.out.cell (p := ⟨b2, off2 + k, none⟩) hlt2).trans (hcell2 k h1)
      clear hcell hcell2
      go_wp2_with (go_quiet (fail))
      go_roundw
      case rel => exact ⟨k + 1, by go_num, by omega, below_drewN hbl.out _⟩
      case measure => simp [intOf]; omega
    · obtain rfl : k = n := by omega
      go_wp2
      go_ret
      exact ⟨rfl, hbl.out⟩

/-- A list that is written out. -/
theorem lit_il (W : World) (L : List Int) : Il (W.alloc (.cells (L.map (fun x => Value.int .i64 x)).toArray 3)) (.slice (some ⟨W.heap.size, 0, none⟩) L.length L.length) L.length (fun i => L.getD i 0) := by
  refine ⟨_, _, rfl, Nat.le_refl _, fun _ => ⟨W.heap.size, 0, rfl, by simp, fun k hk => ?_⟩⟩
  rw [Nat.zero_add]
  exact lit_cells W L 3 k hk

set_option maxHeartbeats 4000000 in
theorem dguess_x {w : World} {a : Option Addr} {len cap : Nat} (hr : Row w a len) (hl : len ≤ 1048576) :
    Calls Try.prog 10 #[.slice a len cap] w fun e w' => ∃ x u n xs, e = .returned (.tuple #[.int .i64 x, u]) ∧ n ≤ 513 ∧ Il w' u n xs ∧ Below w.heap.size w w' := by
  have HR : Hid (Row w a len) := hr
  clear hr
  obtain ⟨c, hcd⟩ : ∃ c, w.heap.size = c := ⟨_, rfl⟩
  have HN : Hid (Calls Try.prog 29 #[.slice a len cap] w fun e w' => e = .returned (.pointer (some ⟨c, 0, none⟩)) ∧ Cu w' c a len cap ∧ Below w.heap.size w w') := by have := new_x (cap := cap) HR.out (by omega); rw [← hcd]; exact this
  go_enter Try.func10, Try.ntmps10
  go_wp2_with (first
    | (go_at_call 29; refine HN.out.mono ?_; rintro e w1 ⟨rfl, hc, hb⟩; have HC : Hid (Cu w1 c a len cap) := hc; have B1 : Hid (Below w.heap.size w w1) := hb; clear hc hb)
    | (go_at_call 30; (fail_if_success have := M2); refine (below_x HC.out 36).mono ?_; rintro e w2 ⟨x2, hx0, hx1, hx2, rfl, hc, hk⟩; have hx3 := hx2 (by omega); obtain ⟨x2, rfl⟩ := Int.eq_ofNat_of_zero_le hx0; have M2 : Hid True := trivial; have HC2 : Hid (Cu w2 c a len cap) := hc; have K2 : Hid (Keep c w1 w2) := hk; clear hc hk hx2)
    | (go_at_call 30; refine (below_x HC2.out 9).mono ?_; rintro e w3 ⟨x3, hy0, hy1, hy2, rfl, hc, hk⟩; have hy3 := hy2 (by omega); obtain ⟨x3, rfl⟩ := Int.eq_ofNat_of_zero_le hy0; have HC3 : Hid (Cu w3 c a len cap) := hc; have K3 : Hid (Keep c w1 w3) := K2.out.trans hk; clear hc hk hy2)
    | (go_at_call 32; refine (size_x a len cap 40 hl).mono ?_; rintro e w' ⟨sz, rfl, hs0, hs1, hs2, hw⟩; have hs3 := hs2 (by omega); obtain rfl := hw.symm)
    | (go_at_call 31; refine (dany_x HC3.out sz (by omega)).mono ?_; rintro e w4 ⟨u, n, ys, rfl, hn, ho, hc, hk⟩; have HO4 : Hid (w4.ownsRow w3.heap.size 3 1 u n (ils ys n)) := ho; have K4 : Hid (Keep c w1 w4) := K3.out.trans hk; clear ho hc hk))
  go_ret2
  exact ⟨_, _, n, ys, rfl, hn, il_of_own HO4.out, Below.keep B1.out K4.out (Nat.le_of_eq hcd)⟩

set_option maxRecDepth 20000 in
set_option maxHeartbeats 8000000 in
theorem walk_guessed {w : World} {a : Option Addr} {len cap : Nat} (hr : Row w a len) (hl : len ≤ 9223372036854775807) : Calls Try.prog 3 #[.slice a len cap] w fun e w' => e = .returned (.bool true) ∧ Below w.heap.size w w' := by
  have hB := big_x (w := w) a len cap hl
  rcases Nat.lt_or_ge 1048576 len with h | h
  · rw [decide_eq_true (by omega)] at hB
    clear hr
    go_enter Try.func3, Try.ntmps3
    go_wp2_with (first | (go_at_call 9; (with_reducible refine (hB).mono ?_); rintro e w' ⟨rfl, hw⟩; obtain rfl := hw.symm))
    go_ret
    exact ⟨rfl, Below.refl _ _⟩
  · rw [decide_eq_false (by omega)] at hB
    have HD : Hid (Calls Try.prog 10 #[.slice a len cap] w fun e w' => ∃ x u n xs, e = .returned (.tuple #[.int .i64 x, u]) ∧ n ≤ 513 ∧ Il w' u n xs ∧ Below w.heap.size w w') := dguess_x hr h
    clear hr
    go_enter Try.func3, Try.ntmps3
    go_upto_region 4 with (first | (go_at_call 9; (with_reducible refine (hB).mono ?_); rintro e w' ⟨rfl, hw⟩; obtain rfl := hw.symm) | (go_at_call 10; refine HD.out.mono ?_; rintro e w1 ⟨x, u, n, xs, rfl, hn, hu, hb⟩; have HU : Hid (Il w1 u n xs) := hu; have BW : Hid (Below w.heap.size w w1) := hb; clear hu hb))
    clear hB HD
    go_wp2
    go_loopw [5, 6, 7, 8, 9, 10, 11, 12, 13] (fun i _ _ _ _ _ _ _ _ wr => ∃ k : Nat, i = .int .i64 k ∧ k ≤ 4 ∧ Hid (Il wr u n xs ∧ Below w.heap.size w wr)) (fun i _ _ _ _ _ _ _ _ _ => 4 - (intOf i).toNat)
    case atStart => exact ⟨0, rfl, by omega, HU.out, BW.out⟩
    case round =>
      obtain ⟨o, rfl, ho, hrel⟩ := hrel
      have HU : Hid (Il wr u n xs) := hrel.out.1
      have BW : Hid (Below w.heap.size w wr) := hrel.out.2
      clear hrel
      by_cases h1 : o ≤ 3
      · by_cases hs : Sig n xs
        · have HS : Hid (Sig n xs) := hs
          have hn5 := hs.1
          have HG : Hid (Wth 10000000000 n (gus o xs)) := fun k hk => (by have := gus_bounds (o := o) hs hk; exact ⟨by omega, by omega⟩)
          have HT : Hid (true = decide (∀ k, k < n → Smp (ugf o (gus o xs) k))) := (decide_eq_true (fun k hk => by rw [ugf_gus]; exact hs.2 k hk)).symm
          clear hs
          go_wp2_with (first
            | (go_at_call 11; refine (iGuess_good HU.out HS.out h1).mono ?_; rintro e w2 ⟨x2, rfl, hq, hb⟩; have HL : Hid (Il w2 x2 n (gus o xs)) := il_of_own hq; have HU : Hid (Il w2 u n xs) := HU.out.below hb; have BW : Hid (Below w.heap.size w w2) := bstep BW.out hb; clear hq hb)
            | (go_at_call 12; refine (sGuess_good HU.out HS.out h1).mono ?_; rintro e w3 ⟨x3, rfl, hq, hb⟩; have HL : Hid (Il w3 x2 n (gus o xs)) := HL.out.below hb; have HU : Hid (Il w3 u n xs) := HU.out.below hb; have BW : Hid (Below w.heap.size w w3) := bstep BW.out hb; clear hq hb)
            | (go_at_call 13; refine (iUnG_good HL.out hn5 HG.out h1 true HT.out n rfl).mono ?_; rintro e w4 ⟨x4, rfl, hq, hb⟩; have HY : Hid (Il w4 x4 n (ugf o (gus o xs))) := il_of_own hq; have HL : Hid (Il w4 x2 n (gus o xs)) := HL.out.below hb; have HU : Hid (Il w4 u n xs) := HU.out.below hb; have BW : Hid (Below w.heap.size w w4) := bstep BW.out hb; clear hq hb)
            | (go_at_call 14; refine (sUnG_good HL.out hn5 HG.out h1 true HT.out n rfl).mono ?_; rintro e w5 ⟨x5, rfl, hq, hb⟩; have HY : Hid (Il w5 x4 n (ugf o (gus o xs))) := HY.out.below hb; have HU : Hid (Il w5 u n xs) := HU.out.below hb; have BW : Hid (Below w.heap.size w w5) := bstep BW.out hb; clear hq hb)
            | (go_at_call 15; refine (same_yes HY.out HU.out (by omega) (fun k hk => ugf_gus o xs k)).mono ?_; rintro e w6 ⟨rfl, hb⟩; have HU : Hid (Il w6 u n xs) := HU.out.below hb; have BW : Hid (Below w.heap.size w w6) := bstep BW.out hb; clear hb))
          go_roundw
          case rel => exact ⟨o + 1, by go_num, by omega, HU.out, BW.out⟩
          case measure => simp [intOf]; omega
        · have HS : Hid (¬ ((0 ≤ (o : Int) ∧ (o : Int) ≤ 3) ∧ Sig n xs)) := fun h => hs h.2
          obtain ⟨z, hz⟩ : ∃ z : Nat, z = 0 := ⟨0, rfl⟩
          have HG : Hid (Wth 10000000000 z (fun _ => 0)) := fun k hk => absurd hk (by omega)
          have HT : Hid (true = decide (∀ k, k < z → Smp (ugf o (fun _ => 0) k))) := (decide_eq_true (fun k hk => absurd hk (by omega))).symm
          have hz5 : z ≤ 512 := by omega
          have HZ : Hid (z = 0) := hz
          clear hs hz
          go_wp2_with (first
            | (go_at_call 11; refine (iGuess_bad HU.out (by omega) HS.out (fun _ => 0)).mono ?_; rintro e w2 ⟨x2, rfl, hq, hb⟩; have HL : Hid (Il w2 x2 z (fun _ => 0)) := (by show Il _ _ _ _; rw [HZ.out]; exact il_of_own hq); have HU : Hid (Il w2 u n xs) := HU.out.below hb; have BW : Hid (Below w.heap.size w w2) := bstep BW.out hb; clear hq hb)
            | (go_at_call 12; refine (sGuess_bad HU.out (by omega) HS.out (fun _ => 0)).mono ?_; rintro e w3 ⟨x3, rfl, hq, hb⟩; have HL : Hid (Il w3 x2 z (fun _ => 0)) := HL.out.below hb; have HU : Hid (Il w3 u n xs) := HU.out.below hb; have BW : Hid (Below w.heap.size w w3) := bstep BW.out hb; clear hq hb)
            | (go_at_call 13; refine (iUnG_good HL.out hz5 HG.out h1 true HT.out z rfl).mono ?_; rintro e w4 ⟨x4, rfl, hq, hb⟩; have HL : Hid (Il w4 x2 z (fun _ => 0)) := HL.out.below hb; have HU : Hid (Il w4 u n xs) := HU.out.below hb; have BW : Hid (Below w.heap.size w w4) := bstep BW.out hb; clear hq hb)
            | (go_at_call 14; refine (sUnG_good HL.out hz5 HG.out h1 true HT.out z rfl).mono ?_; rintro e w5 ⟨x5, rfl, hq, hb⟩; have HU : Hid (Il w5 u n xs) := HU.out.below hb; have BW : Hid (Below w.heap.size w w5) := bstep BW.out hb; clear hq hb))
          go_roundw
          case rel => exact ⟨o + 1, by go_num, by omega, HU.out, BW.out⟩
          case measure => simp [intOf]; omega
      · obtain rfl : o = 4 := by omega
        have E1 : Hid (Il (wr.alloc (.cells #[.int .i64 1, .int .i64 3, .int .i64 6] 3)) (.slice (some ⟨wr.heap.size, 0, none⟩) 3 3) 3 (fun i => [1, 3, 6].getD i 0)) := lit_il wr [1, 3, 6]
        have BE : Hid (Below w.heap.size w (wr.alloc (.cells #[.int .i64 1, .int .i64 3, .int .i64 6] 3))) := bstep BW.out (below_one _ _)
        have hsg : Sig 3 (fun i => [1, 3, 6].getD i 0) := ⟨by omega, fun k hk => by match k, hk with | 0, _ => decide | 1, _ => decide | 2, _ => decide⟩
        have i1 := iGuess_good E1.out hsg (o := 2) (by omega)
        clear hsg E1 HU
        go_wp2_with (first
          | (go_at_call 11; refine i1.mono ?_; rintro e w6 ⟨y, rfl, hq, hb⟩; have i2 := same_yes ((il_of_own hq).below (below_one w6 (.cells #[.int .i64 1, .int .i64 2, .int .i64 1] 3))) (lit_il w6 [1, 2, 1]) (by decide) (fun k hk => by match k, hk with | 0, _ => rfl | 1, _ => rfl | 2, _ => rfl); have B6 : Hid (Below w.heap.size w (w6.alloc (.cells #[.int .i64 1, .int .i64 2, .int .i64 1] 3))) := bstep (bstep BE.out hb) (below_one _ _); clear hq hb)
          | (go_at_call 15; refine i2.mono ?_; rintro e w7 ⟨rfl, hb⟩; have B7 : Hid (Below w.heap.size w w7) := bstep B6.out hb; clear hb))
        go_ret
        exact ⟨rfl, B7.out⟩
end Go.Proofs.Ytehemaodbbjfaaa
