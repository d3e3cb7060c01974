/- FnRational: the law. -/
import Derived.Test.YtgamambcbaobnaaRW
import Derived.Deep.Cut
namespace Go.Proofs.Ytgamambcbaobnaa
open Go.RowKit

theorem rational_big {w : World} {a : Option Addr} {len cap : Nat} (h : 1048576 < len) (hl : len ≤ 9223372036854775807) : Calls Try.prog 3 #[.slice a len cap] w fun e w' => e = .returned (.bool true) ∧ Below w.heap.size w w' := by
  have i1 := big_x (w := w) a len cap hl
  rw [decide_eq_true (by omega)] at i1
  go_enter Try.func3, Try.ntmps3
  go_wp2_with (first | (go_at_call 4; refine i1.mono ?_; rintro e w' ⟨rfl, hw⟩; obtain rfl := hw.symm))
  go_ret
  exact ⟨rfl, Below.refl _ _⟩

set_option maxRecDepth 100000 in
set_option maxHeartbeats 8000000 in
theorem rational_small {w : World} {a : Option Addr} {len cap : Nat} (hr : Row w a len) (h : len ≤ 1048576) : Calls Try.prog 3 #[.slice a len cap] w fun e w' => e = .returned (.bool true) ∧ Below w.heap.size w w' := by
  obtain ⟨i0, hi, hz0, hz1, hz2⟩ := info_parts Try.info3
  have i1 := big_x (w := w) a len cap (by omega)
  rw [decide_eq_false (by omega)] at i1
  have HD : Hid (Calls Try.prog 5 #[.slice a len cap] w fun e w' => ∃ (u t : Value) (i j : Int), e = .returned (.tuple #[u, t, .int .i64 i, .int .i64 j]) ∧ Hid ((∃ n ys, n ≤ 64 ∧ Il w' u n ys) ∧ (∃ m f, m ≤ 65 ∧ Il w' t m f) ∧ Below w.heap.size w w')) := drat_x hr h
  clear hr
  go_enter Try.func3, Try.ntmps3
  go_upto_region 15 with (first
    | (go_at_call 4; (with_reducible refine i1.mono ?_); rintro e w' ⟨rfl, hw⟩; obtain rfl := hw.symm)
    | (go_at_call 5; (with_reducible refine HD.out.mono ?_); rintro e w1 ⟨u, t, i, j, rfl, hq⟩; obtain ⟨⟨n, ys, hn, hil⟩, ⟨m, f, hm, hil2⟩, hb⟩ := hq.out; have UI : Hid (Il w1 u n ys) := hil; have TI : Hid (Il w1 t m f) := hil2; have BW : Hid (Below w.heap.size w w1) := hb; obtain ⟨to, tc, rfl, _, hct⟩ := hil2; clear hil hb hq hct; obtain ⟨d1, hd1⟩ : ∃ d1, d1 = decide (GRa n m ys f i j) := ⟨_, rfl⟩; obtain ⟨d2, hd2⟩ : ∃ d2, d2 = decide (GUp n ys i) := ⟨_, rfl⟩; have D1 : Hid (d1 = decide (GRa n m ys f i j)) := hd1; have D2 : Hid (d2 = decide (GUp n ys i)) := hd2; clear hd1 hd2)
    | (go_at_call 6; (fail_if_success have := M1); have j9 := iR_any (i := i) (j := j) UI.out TI.out hn hm; rw [← D1.out] at j9; (with_reducible refine j9.mono ?_); clear j9; rintro e w2 ⟨xv, K, zs, rfl, hg, hb, hz⟩; have M1 : Hid True := trivial; have XI : Hid (Il w2 xv K zs) := hg; have Z1 : Hid (GRa n m ys f i j → ∃ u d : Nat, i = u ∧ j = d ∧ K = dN (n * u) d 0 ∧ zs = raF m u d f ys) := hz; have UI : Hid (Il w2 u n ys) := UI.out.below hb; have TI : Hid (Il w2 (.slice to m tc) m f) := TI.out.below hb; have BW : Hid (Below w.heap.size w w2) := bstep BW.out hb; clear hg hb hz)
    | (go_at_call 7; have j9 := sR_any (i := i) (j := j) UI.out TI.out hn hm; rw [← D1.out] at j9; (with_reducible refine j9.mono ?_); clear j9; rintro e w3 ⟨tv, rfl, hb⟩; have XI : Hid (Il w3 xv K zs) := XI.out.below hb; have UI : Hid (Il w3 u n ys) := UI.out.below hb; have TI : Hid (Il w3 (.slice to m tc) m f) := TI.out.below hb; have BW : Hid (Below w.heap.size w w3) := bstep BW.out hb; clear hb)
    | (go_at_call 8; have j9 := iU_any (k := i) UI.out hn; rw [← D2.out] at j9; (with_reducible refine j9.mono ?_); clear j9; rintro e w4 ⟨gv, N1, z1, rfl, hg, hb, hz⟩; have GI : Hid (Il w4 gv N1 z1) := hg; have Z2 : Hid (GUp n ys i → ∃ m : Nat, i = m ∧ N1 = n * m ∧ z1 = upF m ys) := hz; have XI : Hid (Il w4 xv K zs) := XI.out.below hb; have UI : Hid (Il w4 u n ys) := UI.out.below hb; have TI : Hid (Il w4 (.slice to m tc) m f) := TI.out.below hb; have BW : Hid (Below w.heap.size w w4) := bstep BW.out hb; clear hg hb hz)
    | (go_at_call 9; have j9 := sU_any (k := i) UI.out hn; rw [← D2.out] at j9; (with_reducible refine j9.mono ?_); clear j9; rintro e w5 ⟨tv, rfl, hb⟩; have GI : Hid (Il w5 gv N1 z1) := GI.out.below hb; have XI : Hid (Il w5 xv K zs) := XI.out.below hb; have TI : Hid (Il w5 (.slice to m tc) m f) := TI.out.below hb; have BW : Hid (Below w.heap.size w w5) := bstep BW.out hb; clear hb)
    | (go_at_call 6; have Z := M1; (with_reducible refine (lab_y w5).mono ?_); rintro e w6 ⟨yv, rfl, ho, b9⟩; have YI : Hid (Il w6 yv 4 (raF 2 2 1 lb la)) := ho; have GI : Hid (Il w6 gv N1 z1) := GI.out.below b9; have XI : Hid (Il w6 xv K zs) := XI.out.below b9; have TI : Hid (Il w6 (.slice to m tc) m f) := TI.out.below b9; have BW : Hid (Below w.heap.size w w6) := bstep BW.out b9; clear ho b9)
    | (go_at_call 10; (with_reducible refine (same_yes (YI.out.below (below_one _ _)) (lc4_il w6) (by omega) lab_told).mono ?_); rintro e w7 ⟨rfl, hb⟩; have b9 : Below w6.heap.size w6 w7 := bstep (below_one _ _) hb; have GI : Hid (Il w7 gv N1 z1) := GI.out.below b9; have XI : Hid (Il w7 xv K zs) := XI.out.below b9; have TI : Hid (Il w7 (.slice to m tc) m f) := TI.out.below b9; have BW : Hid (Below w.heap.size w w7) := bstep BW.out b9; clear hb b9))
  cases d1
  · clear D1 D2 Z1 Z2 XI TI GI YI HD i1
    go_wp2
    all_goals
      go_ret
      exact ⟨rfl, BW.out⟩
  · cases d2
    · clear D1 D2 Z1 Z2 XI TI GI YI HD i1
      go_wp2
      go_ret
      exact ⟨rfl, BW.out⟩
    · have g1 : GRa n m ys f i j := of_decide_eq_true D1.out.symm
      have g2 : GUp n ys i := of_decide_eq_true D2.out.symm
      obtain ⟨up, dn, rfl, rfl, hK, rfl⟩ := Z1.out g1
      obtain ⟨u2, hu2, hN1, rfl⟩ := Z2.out g2
      obtain rfl : up = u2 := by omega
      have hup := g1.2.2.1
      have hdn := g1.2.2.2
      have hm1 := g1.2.1.1
      have hM : N1 ≤ 512 := by have := g2.2.2; rw [show (n : Int) * (up : Int) = ((n * up : Nat) : Int) from (Int.natCast_mul n up).symm, ← hN1] at this; omega
      have hsg := upF_sig g2.1 (show 0 < up by omega) (hN1 ▸ hM)
      rw [← hN1] at hsg hK
      have HSG : Hid (Sig N1 (upF up ys)) := hsg
      have HTP : Hid (Tp m f) := g1.2.1
      have HK : Hid (K = dN N1 dn 0) := hK
      obtain ⟨q, hq⟩ : ∃ q : Nat, q + 1 = m := ⟨m - 1, by omega⟩
      have e5 : (m : Int) - 1 = (q : Int) := by omega
      have hr := mkd_run w7 (k := q) (by omega)
      have HF : Hid (Calls Try.prog 11 #[.slice to m tc, .slice (some ⟨w7.heap.size, 0, none⟩) q q, gv] (mkd w7 q) fun e w' => P3 (mkd w7 q) w' e N1 q (fir m f (fun _ => 0) (upF up ys)) (pst (fun _ => 0) (upF up ys) N1) true) := iFir_good (TI.out.below (mkd_below _ _)) (mkd_own w7 (by omega) (Nat.le_refl _)) (GI.out.below (mkd_below _ _)) ⟨⟨HTP.out, ⟨by omega, fun k _ => (show -1000000000 ≤ (0 : Int) ∧ (0 : Int) ≤ 1000000000 from ⟨by omega, by omega⟩)⟩, hq⟩, HSG.out⟩
      clear D1 D2 Z1 Z2 YI HD i1 g1 g2 hK hsg hN1 hu2 UI GI TI
      go_upto_region 18 with (first
        | (go_at_call 11; (with_reducible refine HF.out.mono ?_); rintro e w8 ⟨fv, pv, rfl, ho, ho2, hap, hb⟩; have FI : Hid (Il w8 fv N1 (fir m f (fun _ => 0) (upF up ys))) := il_of_own ho; have XI : Hid (Il w8 xv K (raF m up dn f ys)) := XI.out.below (bstep (mkd_below _ _) hb); have BW : Hid (Below w.heap.size w w8) := bstep BW.out (bstep (mkd_below _ _) hb); obtain ⟨fo, fc, rfl, hfc, hcf⟩ := il_of_own ho; clear ho ho2 hap hb hcf))
      clear HF hr HSG HTP e5 hq
      obtain ⟨F, hF⟩ : ∃ F, F = fir m f (fun _ => 0) (upF up ys) := ⟨_, rfl⟩
      rw [← hF] at FI
      have HFF : Hid (raF m up dn f ys = thF dn 0 F) := by rw [hF]; rfl
      obtain rfl := HK.out
      have XE : Hid (Il w8 xv (dN N1 dn 0) (thF dn 0 F)) := by rw [← HFF.out]; exact XI.out
      clear hF HFF HK XI
      have FC : Hid (0 < N1 → ∃ b off, fo = some ⟨b, off, none⟩ ∧ b < w8.heap.size ∧ ∀ k, k < N1 → w8.cell? ⟨b, off + k, none⟩ = some (.int .i64 (F k))) := by
        obtain ⟨ao, c, e, _, hh⟩ := FI.out
        injection e with e1 e2 e3
        subst e1
        exact hh
      have OW : Hid ((w8.alloc (.cells #[] 3)).ownsRow w8.heap.size 3 1 (.slice (some ⟨w8.heap.size, 0, none⟩) 0 0) 0 (ils (thF dn 0 F) 0)) := own_empty w8 3 1
      have BL : Hid (Below w8.heap.size w8 (w8.alloc (.cells #[] 3))) := below_one _ _
      clear FI
      go_wp2
      generalize w8.alloc (.cells #[] 3) = W at *
      go_loopw [20, 21] (fun o i wr => ∃ j a : Nat, i = .int .i64 a ∧ Hid ((a = 0 + dn * j ∧ 0 + dn * j < N1 + dn) ∧ wr.ownsRow w8.heap.size 3 1 o j (ils (thF dn 0 F) j) ∧ Below w8.heap.size w8 wr)) (fun _ i _ => N1 + dn - (intOf i).toNat)
      case atStart => exact ⟨0, 0, rfl, ⟨by omega, by omega⟩, OW.out, BL.out⟩
      case round =>
        obtain ⟨j, a', rfl, hrel⟩ := hrel
        have HM : Hid (a' = 0 + dn * j ∧ 0 + dn * j < N1 + dn) := hrel.out.1
        have hjb : j ≤ N1 + dn := by have := HM.out.2; have := Nat.le_mul_of_pos_left j (show 0 < dn by omega); omega
        by_cases h1 : a' < N1
        · obtain ⟨b, off, rfl, hlt, hcell⟩ := FC.out (by omega)
          have c := (hrel.out.2.2.cell (p := ⟨b, off + a', none⟩) hlt).trans (hcell a' h1)
          have hy : F a' = thF dn 0 F j := by show _ = F (0 + dn * j); rw [← HM.out.1]
          rw [hy] at c
          generalize hz : thF dn 0 F j = z at c hy
          have HZ : Hid (thF dn 0 F j = z) := hz
          clear hz hy hcell
          have hb3 := below_one wr (.cells #[.int .i64 z] 3)
          have HO3 := own_below hrel.out.2.1 hb3
          have HB3 := bstep hrel.out.2.2 hb3
          clear hb3
          go_wp2_with (first | (at_builtin; refine wpList_append_own _ rfl _ _ 24 rfl w8.heap.size 3 i0 (.int .i64 0) 1 8 Try.underlying24 hi hz0 hz1 hz2 rfl (by decide) _ _ _ rfl HO3 ⟨wr.heap.size, 0, none⟩ 1 1 [.int .i64 z] rfl rfl (one_new _ _ _) (by simp [Value.oneCell']) (by unfold maxLen; omega) (by omega) HB3.size ?_))
          intro v' w4 hown' hgrow _
          have HB4 : Hid (Below w8.heap.size w8 w4) := grown_below HB3 (Nat.le_refl _) HO3 hgrow
          rw [← HZ.out, ← ils_snoc (thF dn 0 F) j] at hown'
          have HO4 : Hid _ := hown'
          clear hown' hgrow HB3 HO3
          go_wp2
          go_roundw
          case rel => exact ⟨j + 1, a' + dn, by go_num, ⟨by have := HM.out.1; rw [Nat.mul_succ]; omega, by have := HM.out.1; rw [Nat.mul_succ]; omega⟩, HO4.out, HB4.out⟩
          case measure => simp [intOf]; omega
        · have hj : dN N1 dn 0 = j := dN_of (by omega) (by have := HM.out.1; omega) HM.out.2
          have HF9 : Hid (Il wr u20 (dN N1 dn 0) (thF dn 0 F)) := by rw [hj]; exact il_of_own hrel.out.2.1
          have hD := dN_le N1 dn 0 (by omega)
          have i9 := same_yes HF9.out (XE.out.below hrel.out.2.2) (by omega) (fun _ _ => rfl)
          have BR : Hid (Below w.heap.size w wr) := bstep BW.out hrel.out.2.2
          clear hrel hj FC XE OW BL BW HF9
          go_wp2_with (first | (go_at_call 10; (with_reducible refine i9.mono ?_); rintro e w9 ⟨rfl, hb⟩))
          go_ret
          exact ⟨rfl, bstep BR.out hb⟩

theorem walk_rational {w : World} {a : Option Addr} {len cap : Nat} (hr : Row w a len) (hl : len ≤ 9223372036854775807) : Calls Try.prog 3 #[.slice a len cap] w fun e w' => e = .returned (.bool true) ∧ Below w.heap.size w w' := by
  rcases Nat.lt_or_ge 1048576 len with h | h
  · exact rational_big h hl
  · exact rational_small hr h
end Go.Proofs.Ytgamambcbaobnaa
