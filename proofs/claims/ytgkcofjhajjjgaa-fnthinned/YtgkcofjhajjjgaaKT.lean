/- Thinned and thickened: the law. -/
import Derived.Test.YtgkcofjhajjjgaaKK
namespace Go.Proofs.Ytgkcofjhajjjgaa
open Go.RowKit

set_option maxHeartbeats 2000000 in
theorem same_yes {w : World} {v u : Value} {n : Nat} {xs ys : Nat → Int} (hv : Il w v n xs) (hu : Il w u n ys) (hn : n ≤ 1048576) (he : ∀ k, k < n → xs k = ys k) :
    Calls Try.prog 14 #[v, u] w fun e w' => e = .returned (.bool true) ∧ Below w.heap.size w w' := by
  obtain ⟨ao, cap, rfl, hcap, hc⟩ := hv
  obtain ⟨bo, cap2, rfl, hcap2, hc2⟩ := hu
  have HC : Hid (0 < n → ∃ b off, ao = some ⟨b, off, none⟩ ∧ b < w.heap.size ∧ ∀ k, k < n → w.cell? ⟨b, off + k, none⟩ = some (.int .i64 (xs k))) := hc
  have HC2 : Hid (0 < n → ∃ b off, bo = some ⟨b, off, none⟩ ∧ b < w.heap.size ∧ ∀ k, k < n → w.cell? ⟨b, off + k, none⟩ = some (.int .i64 (xs k))) := fun h0 => by
    obtain ⟨b, off, h1, h2, h3⟩ := hc2 h0
    exact ⟨b, off, h1, h2, fun k hk => by rw [he k hk]; exact h3 k hk⟩
  clear hc hc2 he
  go_enter Try.func14, Try.ntmps14
  go_wp2
  go_loopw [5] (fun i wr => ∃ k : Nat, i = .int .i64 k ∧ k ≤ n ∧ Hid (Below w.heap.size w wr)) (fun i _ => n - (intOf i).toNat)
  case atStart => exact ⟨0, rfl, by omega, Below.refl _ _⟩
  case round =>
    obtain ⟨k, rfl, hk, hbl⟩ := hrel
    by_cases h1 : k < n
    · obtain ⟨b, off, rfl, hlt, hcell⟩ := HC.out (by omega)
      obtain ⟨b2, off2, rfl, hlt2, hcell2⟩ := HC2.out (by omega)
      have c1 : wr.cell? ⟨b, off + k, none⟩ = some (.int .i64 (xs k)) := (hbl.out.cell (p := ⟨b, off + k, none⟩) hlt).trans (hcell k h1)
      have c2 : wr.cell? ⟨b2, off2 + k, none⟩ = some (.int .i64 (xs k)) := (hbl.out.cell (p := ⟨b2, off2 + k, none⟩) hlt2).trans (hcell2 k h1)
      clear hcell hcell2
      go_wp2_with (go_quiet (fail))
      go_roundw
      case rel => exact ⟨k + 1, by go_num, by omega, below_drewN hbl.out _⟩
      case measure => simp [intOf]; omega
    · obtain rfl : k = n := by omega
      go_wp2
      go_ret
      exact ⟨rfl, hbl.out⟩

/-- A list that is written out. -/
theorem lit_il (W : World) (L : List Int) : Il (W.alloc (.cells (L.map (fun x => Value.int .i64 x)).toArray 3)) (.slice (some ⟨W.heap.size, 0, none⟩) L.length L.length) L.length (fun i => L.getD i 0) := by
  refine ⟨_, _, rfl, Nat.le_refl _, fun _ => ⟨W.heap.size, 0, rfl, by simp, fun k hk => ?_⟩⟩
  rw [Nat.zero_add]
  exact lit_cells W L 3 k hk

set_option maxHeartbeats 4000000 in
theorem dthin_x {w : World} {a : Option Addr} {len cap : Nat} (hr : Row w a len) (hl : len ≤ 1048576) :
    Calls Try.prog 19 #[.slice a len cap] w fun e w' => ∃ u n xs v q ks, e = .returned (.tuple #[u, v]) ∧ n ≤ 61 ∧ q ≤ 100 ∧ Il w' u n xs ∧ Il w' v q ks ∧ Below w.heap.size w w' := by
  have HR : Hid (Row w a len) := hr
  clear hr
  obtain ⟨c, hcd⟩ : ∃ c, w.heap.size = c := ⟨_, rfl⟩
  have HN : Hid (Calls Try.prog 28 #[.slice a len cap] w fun e w' => e = .returned (.pointer (some ⟨c, 0, none⟩)) ∧ Cu w' c a len cap ∧ Below w.heap.size w w') := by have := new_x (cap := cap) HR.out (by omega); rw [← hcd]; exact this
  go_enter Try.func19, Try.ntmps19
  go_wp2_with (first
    | (go_at_call 28; refine HN.out.mono ?_; rintro e w1 ⟨rfl, hc, hb⟩; have HC : Hid (Cu w1 c a len cap) := hc; have B1 : Hid (Below w.heap.size w w1) := hb; have LC : Hid (c < w1.heap.size) := hc.lt; clear hc hb)
    | (go_at_call 40; refine (size_x a len cap 40 hl).mono ?_; rintro e w' ⟨sz, rfl, hs0, hs1, hs2, hw⟩; have hs3 := hs2 (by omega); obtain rfl := hw.symm)
    | (go_at_call 48; refine (ddraw_x HC.out sz (by omega)).mono ?_; rintro e w2 ⟨u, n, ys, rfl, hn, ho, hc, hk⟩; have HO2 : Hid (w2.ownsRow w1.heap.size 3 1 u n (ils ys n)) := ho; have HC2 : Hid (Cu w2 c a len cap) := hc; have K2 : Hid (Keep c w1 w2) := hk; clear ho hc hk)
    | (go_at_call 49; refine (keep_x HC2.out).mono ?_; rintro e w3 ⟨v, q, ks, rfl, hq, ho, hc, hk⟩; have HO3 : Hid (w3.ownsRow w1.heap.size 3 1 u n (ils ys n)) := own_keep HO2.out hk LC.out; have HQ3 : Hid (w3.ownsRow w2.heap.size 3 1 v q (ils ks q)) := ho; have K3 : Hid (Keep c w1 w3) := K2.out.trans hk; clear ho hc hk))
  go_ret2
  exact ⟨_, n, ys, _, q, ks, rfl, hn, hq, il_of_own HO3.out, il_of_own HQ3.out, Below.keep B1.out K3.out (Nat.le_of_eq hcd)⟩

theorem thk_tf {q n i : Nat} {ks xs : Nat → Int} (hi : i < n) : thk q ks (tf q ks xs n) i = if Kt q ks i then xs i else 0 := by
  unfold thk
  by_cases h : Kt q ks i
  · rw [if_pos h, if_pos h]
    have h1 := kc_lt hi h
    rw [tf_pf h1]
    obtain ⟨_, h3, h4⟩ := pf_told h1
    rw [kt_one h3 h h4]
  · rw [if_neg h, if_neg h]

set_option maxRecDepth 20000 in
set_option maxHeartbeats 8000000 in
theorem walk_thinned {w : World} {a : Option Addr} {len cap : Nat} (hr : Row w a len) (hl : len ≤ 9223372036854775807) : Calls Try.prog 5 #[.slice a len cap] w fun e w' => e = .returned (.bool true) ∧ Below w.heap.size w w' := by
  have hB := big_x (w := w) a len cap hl
  rcases Nat.lt_or_ge 1048576 len with h | h
  · rw [decide_eq_true (by omega)] at hB
    clear hr
    go_enter Try.func5, Try.ntmps5
    go_wp2_with (first | (go_at_call 9; (with_reducible refine (hB).mono ?_); rintro e w' ⟨rfl, hw⟩; obtain rfl := hw.symm))
    go_ret
    exact ⟨rfl, Below.refl _ _⟩
  · rw [decide_eq_false (by omega)] at hB
    have HD : Hid (Calls Try.prog 19 #[.slice a len cap] w fun e w' => ∃ u n xs v q ks, e = .returned (.tuple #[u, v]) ∧ n ≤ 61 ∧ q ≤ 100 ∧ Il w' u n xs ∧ Il w' v q ks ∧ Below w.heap.size w w') := dthin_x hr h
    clear hr
    go_enter Try.func5, Try.ntmps5
    go_upto_region 4 with (first | (go_at_call 9; (with_reducible refine (hB).mono ?_); rintro e w' ⟨rfl, hw⟩; obtain rfl := hw.symm) | (go_at_call 19; refine HD.out.mono ?_; rintro e w1 ⟨u, n, xs, v, q, ks, rfl, hn, hq, hu, hv, hb⟩; have HU : Hid (Il w1 u n xs) := hu; have HV : Hid (Il w1 v q ks) := hv; have BW : Hid (Below w.heap.size w w1) := hb; clear hu hv hb))
    clear hB HD
    by_cases hk : Kp q ks
    · have HK : Hid (Kp q ks) := hk
      have hq0 := hk.pos
      have hN := kc_le q ks n
      clear hk
      obtain ⟨N, hNe⟩ : ∃ N, N = kc q ks n := ⟨_, rfl⟩
      have HN : Hid (N = kc q ks n) := hNe
      rw [← hNe] at hN
      clear hNe
      go_upto_region 12 with (first
        | (go_at_call 20; refine (iThin_good HU.out HV.out (by omega) HK.out).mono ?_; rintro e w2 ⟨x, rfl, ho, hb⟩; rw [← HN.out] at ho; have HX : Hid (Il w2 x N (tf q ks xs n)) := il_of_own ho; have HU : Hid (Il w2 u n xs) := HU.out.below hb; have HV : Hid (Il w2 v q ks) := HV.out.below hb; have BW : Hid (Below w.heap.size w w2) := bstep BW.out hb; clear ho hb)
        | (go_at_call 21; refine (sThin_good HU.out HV.out (by omega) HK.out).mono ?_; rintro e w3 ⟨x9, rfl, ho, hb⟩; have HX : Hid (Il w3 x N (tf q ks xs n)) := HX.out.below hb; have HU : Hid (Il w3 u n xs) := HU.out.below hb; have HV : Hid (Il w3 v q ks) := HV.out.below hb; have BW : Hid (Below w.heap.size w w3) := bstep BW.out hb; clear ho hb; obtain ⟨ao, cu, hu9, hcu, _⟩ := HU.out; subst hu9)
        | (go_at_call 22; refine (iThk_good HX.out HV.out (n := n) (by omega) HK.out HN.out.symm).mono ?_; rintro e w5 ⟨y, rfl, ho, hb⟩; have HY : Hid (Il w5 y n (thk q ks (tf q ks xs n))) := il_of_own ho; have HU : Hid (Il w5 (.slice ao n cu) n xs) := HU.out.below hb; have HV : Hid (Il w5 v q ks) := HV.out.below hb; have BW : Hid (Below w.heap.size w w5) := bstep BW.out hb; clear ho hb; obtain ⟨yo, cy, hy9, hcy, _⟩ := HY.out; subst hy9))
      obtain ⟨vo, cv, hv9, hcv, _⟩ := HV.out
      subst hv9
      have HC1 : Hid (0 < n → ∃ b off, ao = some ⟨b, off, none⟩ ∧ b < w5.heap.size ∧ ∀ k, k < n → w5.cell? ⟨b, off + k, none⟩ = some (.int .i64 (xs k))) := by obtain ⟨_, _, e, _, h9⟩ := HU.out; cases e; exact h9
      have HC2 : Hid (0 < q → ∃ b off, vo = some ⟨b, off, none⟩ ∧ b < w5.heap.size ∧ ∀ k, k < q → w5.cell? ⟨b, off + k, none⟩ = some (.int .i64 (ks k))) := by obtain ⟨_, _, e, _, h9⟩ := HV.out; cases e; exact h9
      have HC3 : Hid (0 < n → ∃ b off, yo = some ⟨b, off, none⟩ ∧ b < w5.heap.size ∧ ∀ k, k < n → w5.cell? ⟨b, off + k, none⟩ = some (.int .i64 (thk q ks (tf q ks xs n) k))) := by obtain ⟨_, _, e, _, h9⟩ := HY.out; cases e; exact h9
      clear HU HV HY HX
      go_wp2
      go_loopw [13] (fun i wr => ∃ k : Nat, i = .int .i64 k ∧ k ≤ n ∧ Hid (Below w5.heap.size w5 wr)) (fun i _ => n - (intOf i).toNat)
      case atStart => exact ⟨0, rfl, by omega, Below.refl _ _⟩
      case round =>
        obtain ⟨k, rfl, hk, hbl⟩ := hrel
        by_cases h1 : k < n
        · obtain ⟨b1, f1, rfl, hl1, hc1⟩ := HC1.out (by omega)
          obtain ⟨b2, f2, rfl, hl2, hc2⟩ := HC2.out (by omega)
          obtain ⟨b3, f3, rfl, hl3, hc3⟩ := HC3.out (by omega)
          obtain ⟨r, hr⟩ : ∃ r : Nat, r = k % q := ⟨_, rfl⟩
          have hrq : r < q := by rw [hr]; exact Nat.mod_lt _ (by omega)
          have m1 : (k : Int).tmod (q : Int) = (r : Int) := by rw [Int.tmod_eq_emod_of_nonneg (by omega), hr]; exact_mod_cast rfl
          have m2 : (k : Int) % (q : Int) = (r : Int) := by rw [hr]; exact_mod_cast rfl
          have HR : Hid (r = k % q) := hr
          clear hr
          have c1 := (hbl.out.cell (p := ⟨b1, f1 + k, none⟩) hl1).trans (hc1 k h1)
          have c2 := (hbl.out.cell (p := ⟨b2, f2 + r, none⟩) hl2).trans (hc2 r hrq)
          have c3 := (hbl.out.cell (p := ⟨b3, f3 + k, none⟩) hl3).trans (hc3 k h1)
          rw [thk_tf h1] at c3
          by_cases h2 : Kt q ks k
          · rw [if_pos h2] at c3
            rw [show ks r = 1 by rw [HR.out]; exact h2] at c2
            have h8 : (xs k != xs k) = false := by simp
            clear hc1 hc2 hc3 h2
            generalize xs k = x at *
            go_wp2_with (go_quiet (fail))
            go_roundw
            case rel => exact ⟨k + 1, by go_num, by omega, below_drewN hbl.out _⟩
            case measure => simp [intOf]; omega
          · rw [if_neg h2] at c3
            have h9 : ks r = 0 := by
              have h7 := HK.out.2.1 r hrq
              have h6 : ¬ ks r = 1 := by rw [HR.out]; exact h2
              rcases h7 with h7 | h7
              · exact h7
              · exact absurd h7 h6
            rw [h9] at c2
            clear hc1 hc2 hc3 h2 h9
            generalize xs k = x at *
            go_wp2_with (go_quiet (fail))
            go_roundw
            case rel => exact ⟨k + 1, by go_num, by omega, below_drewN hbl.out _⟩
            case measure => simp [intOf]; omega
        · obtain rfl : n = k := by omega
          go_wp2
          go_ret
          exact ⟨rfl, bstep BW.out hbl.out⟩
    · have HK : Hid (¬ (n ≤ 1024 ∧ Kp q ks)) := fun h9 => hk h9.2
      clear hk
      go_upto_region 9 with (first
        | (go_at_call 20; refine (iThin_bad HU.out HV.out (by omega) HK.out (fun _ => 0)).mono ?_; rintro e w2 ⟨x, rfl, ho, hb⟩; have HU : Hid (Il w2 u n xs) := HU.out.below hb; have HV : Hid (Il w2 v q ks) := HV.out.below hb; have BW : Hid (Below w.heap.size w w2) := bstep BW.out hb; clear ho hb)
        | (go_at_call 21; refine (sThin_bad HU.out HV.out (by omega) HK.out (fun _ => 0)).mono ?_; rintro e w3 ⟨x9, rfl, ho, hb⟩; have BW : Hid (Below w.heap.size w w3) := bstep BW.out hb; clear ho hb))
      clear HU HV HK
      have E1 : Hid (Il ((w3.alloc (.cells #[.int .i64 4, .int .i64 5, .int .i64 6] 3)).alloc (.cells #[.int .i64 1, .int .i64 0] 3)) (.slice (some ⟨w3.heap.size, 0, none⟩) 3 3) 3 (fun i => [4, 5, 6].getD i 0)) := (lit_il w3 [4, 5, 6]).below (below_one _ _)
      have E2 : Hid (Il ((w3.alloc (.cells #[.int .i64 4, .int .i64 5, .int .i64 6] 3)).alloc (.cells #[.int .i64 1, .int .i64 0] 3)) (.slice (some ⟨w3.heap.size + 1, 0, none⟩) 2 2) 2 (fun i => [1, 0].getD i 0)) := by
        have := lit_il (w3.alloc (.cells #[.int .i64 4, .int .i64 5, .int .i64 6] 3)) [1, 0]
        rw [show (w3.alloc (.cells #[.int .i64 4, .int .i64 5, .int .i64 6] 3)).heap.size = w3.heap.size + 1 from Array.size_push _] at this
        exact this
      have BE : Hid (Below w.heap.size w ((w3.alloc (.cells #[.int .i64 4, .int .i64 5, .int .i64 6] 3)).alloc (.cells #[.int .i64 1, .int .i64 0] 3))) := bstep BW.out (bstep (below_one _ _) (below_one _ _))
      have hkp : Kp 2 (fun i => [1, 0].getD i 0) := ⟨by omega, fun k hk => by match k, hk with | 0, _ => exact .inr rfl | 1, _ => exact .inl rfl, 0, by omega, rfl⟩
      have i1 := iThin_good E1.out E2.out (by omega) hkp
      rw [show kc 2 (fun i => [1, 0].getD i 0) 3 = 2 from rfl] at i1
      clear hkp E1 E2
      go_wp2_with (first
        | (go_at_call 20; refine i1.mono ?_; rintro e w6 ⟨y, rfl, ho, hb⟩; have i2 := same_yes ((il_of_own ho).below (below_one w6 (.cells #[.int .i64 4, .int .i64 6] 3))) (lit_il w6 [4, 6]) (by decide) (fun k hk => by match k, hk with | 0, _ => rfl | 1, _ => rfl); have B6 : Hid (Below w.heap.size w (w6.alloc (.cells #[.int .i64 4, .int .i64 6] 3))) := bstep (bstep BE.out hb) (below_one _ _); clear ho hb)
        | (go_at_call 14; refine i2.mono ?_; rintro e w7 ⟨rfl, hb⟩; have B7 : Hid (Below w.heap.size w w7) := bstep B6.out hb; clear hb))
      go_ret
      exact ⟨rfl, B7.out⟩
end Go.Proofs.Ytgkcofjhajjjgaa
