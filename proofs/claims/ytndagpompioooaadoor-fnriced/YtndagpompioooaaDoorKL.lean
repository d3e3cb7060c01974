/- Numbers come back from their bits: the law. -/
import Derived.Test.YtndagpompioooaaDoorKR
import Derived.Test.YtndagpompioooaaDoorKX
import Derived.Test.YtndagpompioooaaDoorRE
import Derived.Test.YtndagpompioooaaDoorRF
import Derived.Test.YtndagpompioooaaDoorRG
import Derived.Test.YtndagpompioooaaDoorUF
import Derived.Test.YtndagpompioooaaDoorRB
import Derived.BigQuiet
namespace Go.Proofs.YtndagpompioooaaDoor
open Go.RowKit

theorem brv_in (n : Nat) (xs : Nat → Int) : -1 ≤ (brv n xs).1 ∧ (brv n xs).1 ≤ 31 ∧ (brv n xs).2 ≤ 100000 := by
  unfold brv
  by_cases hr : Rc n xs
  · rw [if_pos hr]; have := bst_le n xs 31; exact ⟨this.1, by omega, this.2.2⟩
  · rw [if_neg hr]; exact ⟨by show (-1 : Int) ≤ -1; omega, by show (-1 : Int) ≤ 31; omega, by show 0 ≤ 100000; omega⟩

set_option maxHeartbeats 2000000 in
theorem same_yes {w : World} {v u : Value} {n : Nat} {xs ys : Nat → Int} (hv : Il w v n xs) (hu : Il w u n ys) (hn : n ≤ 1048576) (he : ∀ k, k < n → xs k = ys k) :
    Calls Tryd.prog 16 #[v, u] w fun e w' => e = .returned (.bool true) ∧ Below w.heap.size w w' := by
  obtain ⟨ao, cap, rfl, hcap, hc⟩ := hv
  obtain ⟨bo, cap2, rfl, hcap2, hc2⟩ := hu
  have HC : Hid (0 < n → ∃ b off, ao = some ⟨b, off, none⟩ ∧ b < w.heap.size ∧ ∀ k, k < n → w.cell? ⟨b, off + k, none⟩ = some (.int .i64 (xs k))) := hc
  have HC2 : Hid (0 < n → ∃ b off, bo = some ⟨b, off, none⟩ ∧ b < w.heap.size ∧ ∀ k, k < n → w.cell? ⟨b, off + k, none⟩ = some (.int .i64 (xs k))) := fun h0 => by
    obtain ⟨b, off, h1, h2, h3⟩ := hc2 h0
    exact ⟨b, off, h1, h2, fun k hk => by rw [he k hk]; exact h3 k hk⟩
  clear hc hc2 he
  go_enter Tryd.func16, Tryd.ntmps16
  go_wp2
  go_loopw [5] (fun i wr => ∃ k : Nat, i = .int .i64 k ∧ k ≤ n ∧ Hid (Below w.heap.size w wr)) (fun i _ => n - (intOf i).toNat)
  case atStart => exact ⟨0, rfl, by omega, Below.refl _ _⟩
  case round =>
    obtain ⟨k, rfl, hk, hbl⟩ := hrel
    by_cases h1 : k < n
    · obtain ⟨b, off, rfl, hlt, hcell⟩ := HC.out (by omega)
      obtain ⟨b2, off2, rfl, hlt2, hcell2⟩ := HC2.out (by omega)
      have c1 : wr.cell? ⟨b, off + k, none⟩ = some (.int .i64 (xs k)) := (hbl.out.cell (p := ⟨b, off + k, none⟩) hlt).trans (hcell k h1)
      have c2 : wr.cell? ⟨b2, off2 + k, none⟩ = some (.int .i64 (xs k)) := (hbl.out.cell (p := ⟨b2, off2 + k, none⟩) hlt2).trans (hcell2 k h1)
      clear hcell hcell2
      go_wp2_with (go_quiet (fail))
      go_roundw
      case rel => exact ⟨k + 1, by go_num, by omega, below_drewN hbl.out _⟩
      case measure => simp [intOf]; omega
    · obtain rfl : k = n := by omega
      go_wp2
      go_ret
      exact ⟨rfl, hbl.out⟩

/-- A list that is written out. -/
theorem lit_il (W : World) (L : List Int) : Il (W.alloc (.cells (L.map (fun x => Value.int .i64 x)).toArray 3)) (.slice (some ⟨W.heap.size, 0, none⟩) L.length L.length) L.length (fun i => L.getD i 0) := by
  refine ⟨_, _, rfl, Nat.le_refl _, fun _ => ⟨W.heap.size, 0, rfl, by simp, fun k hk => ?_⟩⟩
  rw [Nat.zero_add]
  exact lit_cells W L 3 k hk

theorem three_new (w : World) (x y z : Value) (t : TypeId) : ∀ j u, [x, y, z][j]? = some u → (w.alloc (.cells #[x, y, z] t)).cell? ((⟨w.heap.size, 0, none⟩ : Addr).add j) = some u := by
  intro j u h
  match j, h with
  | 0, h => simp at h; subst h; simp [Addr.add]
  | 1, h => simp at h; subst h; simp [Addr.add]
  | 2, h => simp at h; subst h; simp [Addr.add]
  | j + 3, h => simp at h

theorem ils_three (M : List Int) (N : Nat) (hN : N = M.length) : ils (lf M) N ++ [.int .i64 1, .int .i64 0, .int .i64 1] = ils (lf (M ++ [1, 0, 1])) (N + 3) := by
  apply List.ext_getElem?
  intro i
  by_cases h : i < N
  · rw [List.getElem?_append_left (by rw [ils_length]; exact h), ils_get h, ils_get (by omega), lf_left (by omega)]
  · rw [List.getElem?_append_right (by rw [ils_length]; omega), ils_length]
    by_cases h2 : i < N + 3
    · rw [ils_get h2, lf_right (by omega), ← hN]
      rcases (show i - N = 0 ∨ i - N = 1 ∨ i - N = 2 by omega) with e | e | e <;> rw [e] <;> rfl
    · rw [List.getElem?_eq_none (by simp; omega), List.getElem?_eq_none (by rw [ils_length]; omega)]

theorem back_at {n : Nat} {xs : Nat → Int} : ∀ k, k < n → lf ((List.range n).map xs) k = xs k := by
  intro k hk
  unfold lf
  rw [List.getD_eq_getElem?_getD, List.getElem?_map, List.getElem?_range hk]
  rfl

set_option maxRecDepth 20000 in
set_option maxHeartbeats 16000000 in
theorem walk_riced {w : World} {a : Option Addr} {len cap : Nat} (hg : Eg w) (hr : Row w a len) (hl : len ≤ 9223372036854775807) : Calls Tryd.prog 3 #[.slice a len cap] w fun e w' => e = .returned (.bool true) ∧ Below w.heap.size w w' := by
  have hB := big_x (w := w) a len cap hl
  rcases Nat.lt_or_ge 1048576 len with h | h
  · rw [decide_eq_true (by omega)] at hB
    clear hr hg
    go_enter Tryd.func3, Tryd.ntmps3
    go_wp2_with (first | (go_at_call 9; (with_reducible refine (hB).mono ?_); rintro e w' ⟨rfl, hw⟩; obtain rfl := hw.symm))
    go_ret
    exact ⟨rfl, Below.refl _ _⟩
  · rw [decide_eq_false (by omega)] at hB
    obtain ⟨i0, hi, hz0, hz1, hz2⟩ := info_parts Tryd.info3
    have HEG : Hid (∀ W, Below w.heap.size w W → Eg W) := fun W hW => keepc hW hg
    have HD : Hid (Calls Tryd.prog 10 #[.slice a len cap] w fun e w' => ∃ x u n xs, e = .returned (.tuple #[.int .i64 x, u]) ∧ n ≤ 62 ∧ Il w' u n xs ∧ Below w.heap.size w w') := drice_x hr h
    clear hr hg
    go_enter Tryd.func3, Tryd.ntmps3
    go_upto_region 4 with (first | (go_at_call 9; (with_reducible refine (hB).mono ?_); rintro e w' ⟨rfl, hw⟩; obtain rfl := hw.symm) | (go_at_call 10; refine HD.out.mono ?_; rintro e w1 ⟨x, u, n, xs, rfl, hn, hu, hb⟩; have HU : Hid (Il w1 u n xs) := hu; have BW : Hid (Below w.heap.size w w1) := hb; obtain ⟨ua, uc, hu9, huc, _⟩ := hu; subst hu9; clear hb))
    clear hB HD
    obtain ⟨X, Y, hxy⟩ : ∃ (X : Int) (Y : Nat), brv n xs = (X, Y) := ⟨_, _, rfl⟩
    have hbi := brv_in n xs
    rw [hxy] at hbi
    obtain ⟨hb0, hb1, hb2⟩ : -1 ≤ X ∧ X ≤ 31 ∧ Y ≤ 100000 := hbi
    have HXY : Hid (brv n xs = (X, Y)) := hxy
    have hx9 : (X != X) = false := by simp
    have hy9 : ((Y : Int) != (Y : Int)) = false := by simp
    clear hxy
    go_wp2_with (first
      | (go_at_call 11; refine (iBest_any HU.out (by omega)).mono ?_; rw [HXY.out]; rintro e w' ⟨rfl, hw⟩; obtain rfl := hw.symm)
      | (go_at_call 12; refine (sBest_any HU.out (by omega)).mono ?_; rw [HXY.out]; rintro e w' ⟨rfl, hw⟩; obtain rfl := hw.symm))
    go_loopw [9, 10, 11, 12, 13, 14, 15, 16] (fun kv _ _ _ _ _ _ _ wr => ∃ k : Nat, kv = .int .i64 k ∧ k ≤ 31 ∧ Hid (Il wr (.slice ua n uc) n xs ∧ Below w.heap.size w wr)) (fun kv _ _ _ _ _ _ _ _ => 31 - (intOf kv).toNat)
    case atStart => exact ⟨0, rfl, by omega, HU.out, BW.out⟩
    case round =>
      clear HU BW
      obtain ⟨k, rfl, hk, hrel⟩ := hrel
      have HU : Hid (Il wr (.slice ua n uc) n xs) := hrel.out.1
      have BW : Hid (Below w.heap.size w wr) := hrel.out.2
      clear hrel
      by_cases h1 : k ≤ 30
      · by_cases hg1 : Rc n xs ∧ rbt k xs n ≤ 100000
        · have HR : Hid (Rc n xs ∧ rbt k xs n ≤ 100000) := hg1
          obtain ⟨N, hN⟩ : ∃ N, N = rbt k xs n := ⟨_, rfl⟩
          have hN1 : N ≤ 100000 := by rw [hN]; exact hg1.2
          have hNY : Y ≤ N := by have := brv_least hg1.1 h1 hg1.2; rw [HXY.out] at this; rw [hN]; exact this
          have HN : Hid (N = rbt k xs n) := hN
          have HBK : Hid (rdn (lf (ric k xs n ++ [1, 0, 1])) (N + 3) k n = some ((List.range n).map xs, N)) := by rw [hN]; exact ric_back [1, 0, 1] h1 hg1.1.2 n (Nat.le_refl _)
          have HAB : Hid (∀ i, i < N + 3 → Bit (lf (ric k xs n ++ [1, 0, 1]) i)) := ric_all (by simp [Bit]) (by rw [hN]; rfl)
          have HRL : Hid (((List.range n).map xs).length = n) := by show _ = _; rw [List.length_map, List.length_range]
          have hn9 : ((N : Int) != (N : Int)) = false := by simp
          clear hg1 hN
          go_upto_region 16 with (first
            | (go_at_call 13; refine (iRice_good HU.out HR.out.1 h1 HR.out.2 HN.out).mono ?_; rintro e w2 ⟨x2, rfl, ho, hb⟩; obtain ⟨xa, xc, hx8⟩ := own_slice3 ho; subst hx8; have HX : Hid (w2.ownsRow wr.heap.size 3 1 (.slice xa N xc) N (ils (lf (ric k xs n)) N)) := ho; have HU : Hid (Il w2 (.slice ua n uc) n xs) := HU.out.below hb; have BW : Hid (Below w.heap.size w w2) := bstep BW.out hb; clear ho hb)
            | (go_at_call 14; refine (sRice_good HU.out HR.out.1 h1 HR.out.2 HN.out).mono ?_; rintro e w3 ⟨x3, rfl, ho, hb⟩; have HX : Hid (w3.ownsRow wr.heap.size 3 1 (.slice xa N xc) N (ils (lf (ric k xs n)) N)) := own_below HX.out hb; have HU : Hid (Il w3 (.slice ua n uc) n xs) := HU.out.below hb; have BW : Hid (Below w.heap.size w w3) := bstep BW.out hb; clear ho hb))
          have bE := below_one w3 (.cells #[] 3)
          have OE : Hid ((w3.alloc (.cells #[] 3)).ownsRow w3.heap.size 3 1 (.slice (some ⟨w3.heap.size, 0, none⟩) 0 0) 0 []) := own_empty w3 3 1
          have XE : Hid ((w3.alloc (.cells #[] 3)).ownsRow wr.heap.size 3 1 (.slice xa N xc) N (ils (lf (ric k xs n)) N)) := own_below HX.out bE
          have BE : Hid (Below w3.heap.size w3 (w3.alloc (.cells #[] 3))) := bE
          clear bE
          go_wp2_with (first
            | (at_builtin; (fail_if_success have := M1); refine wpList_appo rfl _ _ rfl w3.heap.size wr.heap.size _ _ 0 N [] (lf (ric k xs n)) rfl rfl OE.out XE.out (by omega) BE.out.size ?_; intro v4 w4 hown hgrow; have M1 : Hid True := trivial; have b4 := below_one w4 (.cells #[.int .i64 1, .int .i64 0, .int .i64 1] 3); have O4 : Hid ((w4.alloc (.cells #[.int .i64 1, .int .i64 0, .int .i64 1] 3)).ownsRow w3.heap.size 3 1 v4 N (ils (lf (ric k xs n)) N)) := (by have h := hown; rw [List.nil_append, Nat.zero_add] at h; exact own_below h b4); have B4 : Hid (Below w3.heap.size w3 (w4.alloc (.cells #[.int .i64 1, .int .i64 0, .int .i64 1] 3))) := bstep (grown_below BE.out (Nat.le_refl _) OE.out hgrow) b4; clear hown hgrow b4)
            | (at_builtin; have := M1; refine wpList_append_own _ rfl _ _ 24 rfl w3.heap.size 3 i0 (.int .i64 0) 1 8 Tryd.underlying24 hi hz0 hz1 hz2 rfl (by decide) _ _ _ rfl O4.out ⟨w4.heap.size, 0, none⟩ 3 3 [.int .i64 1, .int .i64 0, .int .i64 1] rfl rfl (three_new _ _ _ _ _) (by simp [Value.oneCell']) (by unfold maxLen; omega) (by omega) B4.out.size ?_; intro v5 w5 hown hgrow _; have HY : Hid (Il w5 v5 (N + 3) (lf (ric k xs n ++ [1, 0, 1]))) := (by have h := hown; rw [ils_three (ric k xs n) N (by rw [ric_len]; exact HN.out)] at h; exact il_of_own h); have B5 : Hid (Below w3.heap.size w3 w5) := grown_below B4.out (Nat.le_refl _) O4.out hgrow; clear hown hgrow)
            | (go_at_call 15; refine (iUnr_some (HEG.out _ (bstep BW.out B5.out)) HY.out HAB.out (by omega) h1 (by omega) HBK.out).mono ?_; rw [HRL.out]; rintro e w6 ⟨x6, rfl, ho, hb⟩; have HZ : Hid (Il w6 x6 n (lf ((List.range n).map xs))) := il_of_own ho; have HU : Hid (Il w6 (.slice ua n uc) n xs) := (HU.out.below B5.out).below hb; have BW : Hid (Below w.heap.size w w6) := bstep (bstep BW.out B5.out) hb; clear ho hb)
            | (go_at_call 16; refine (same_yes HZ.out HU.out (by omega) back_at).mono ?_; rintro e w7 ⟨rfl, hb⟩; have HU : Hid (Il w7 (.slice ua n uc) n xs) := HU.out.below hb; have BW : Hid (Below w.heap.size w w7) := bstep BW.out hb; clear hb))
          go_roundw
          case rel => exact ⟨k + 1, by go_num, by omega, HU.out, BW.out⟩
          case measure => simp [intOf]; omega
        · have HR : Hid (¬ (((0 ≤ (k : Int) ∧ (k : Int) ≤ 30) ∧ Rc n xs) ∧ rbt (k : Int).toNat xs n ≤ 100000)) := fun h9 => hg1 ⟨h9.1.2, h9.2⟩
          clear hg1
          go_wp2_with (first
            | (go_at_call 13; refine (iRice_bad HU.out (by omega) HR.out (fun _ => 0)).mono ?_; rintro e w2 ⟨x2, rfl, ho, hb⟩; have HU : Hid (Il w2 (.slice ua n uc) n xs) := HU.out.below hb; have BW : Hid (Below w.heap.size w w2) := bstep BW.out hb; clear ho hb)
            | (go_at_call 14; refine (sRice_bad HU.out (by omega) HR.out (fun _ => 0)).mono ?_; rintro e w3 ⟨x3, rfl, ho, hb⟩; have HU : Hid (Il w3 (.slice ua n uc) n xs) := HU.out.below hb; have BW : Hid (Below w.heap.size w w3) := bstep BW.out hb; clear ho hb))
          go_roundw
          case rel => exact ⟨k + 1, by go_num, by omega, HU.out, BW.out⟩
          case measure => simp [intOf]; omega
      · obtain rfl : k = 31 := by omega
        have E1 : Hid (Il (wr.alloc (.cells #[.int .i64 (-2)] 3)) (.slice (some ⟨wr.heap.size, 0, none⟩) 1 1) 1 (fun i => [(-2 : Int)].getD i 0)) := lit_il wr [-2]
        have BE : Hid (Below w.heap.size w (wr.alloc (.cells #[.int .i64 (-2)] 3))) := bstep BW.out (below_one _ _)
        have hrc : Rc 1 (fun i => [(-2 : Int)].getD i 0) := ⟨by omega, fun k hk => by match k, hk with | 0, _ => decide⟩
        have i1 := iRice_good (k := 1) (N := 3) E1.out hrc (by omega) (by decide) (by decide)
        clear hrc E1 HU
        go_wp2_with (first
          | (go_at_call 13; refine i1.mono ?_; rintro e w6 ⟨y, rfl, ho, hb⟩; have i2 := same_yes ((il_of_own ho).below (below_one w6 (.cells #[.int .i64 1, .int .i64 0, .int .i64 1] 3))) (lit_il w6 [1, 0, 1]) (by decide) (fun k hk => by match k, hk with | 0, _ => rfl | 1, _ => rfl | 2, _ => rfl); have B6 : Hid (Below w.heap.size w (w6.alloc (.cells #[.int .i64 1, .int .i64 0, .int .i64 1] 3))) := bstep (bstep BE.out hb) (below_one _ _); clear ho hb)
          | (go_at_call 16; refine i2.mono ?_; rintro e w7 ⟨rfl, hb⟩; have B7 : Hid (Below w.heap.size w w7) := bstep B6.out hb; clear hb))
        go_ret
        exact ⟨rfl, B7.out⟩
end Go.Proofs.YtndagpompioooaaDoor
