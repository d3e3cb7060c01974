/- FnConvolved: the law. -/
import Derived.Test.YtbbbahbbfaglbaaDoorCD
import Derived.Deep.Cut
import Derived.BigQuiet
import Derived.Deep.QuietTactic
namespace Go.Proofs.YtbbbahbbfaglbaaDoor
open Go.RowKit

theorem ard_two (w : World) : Calls Tryd.prog 11 #[.slice (some ⟨w.heap.size, 0, none⟩) 2 2, .slice (some ⟨w.heap.size + 1, 0, none⟩) 2 2] ((w.alloc (.cells #[.int .i64 1, .int .i64 2] 3)).alloc (.cells #[.int .i64 3, .int .i64 4] 3)) fun e w' => Pst ((w.alloc (.cells #[.int .i64 1, .int .i64 2] 3)).alloc (.cells #[.int .i64 3, .int .i64 4] 3)) w' e 2 (two 11 10) true := by
  have e : (w.alloc (.cells #[.int .i64 1, .int .i64 2] 3)).heap.size = w.heap.size + 1 := by simp
  have h2 := il_two (w.alloc (.cells #[.int .i64 1, .int .i64 2] 3)) 3 4
  rw [e] at h2
  exact (iArd_yes ((il_two w 1 2).below (below_one _ _)) h2 (tps_two 1 2 (by decide) (by decide)) (tps_two 3 4 (by decide) (by decide)) (by omega) rfl).mono fun _ _ h => h.congr ard_lit

set_option maxHeartbeats 16000000 in
theorem walk_convolved {w : World} (hs : Prs w) {a : Option Addr} {n cap : Nat} (hr : Row w a n) (hn : n ≤ 9223372036854775807) : Calls Tryd.prog 4 #[.slice a n cap] w fun e w' => e = .returned (.bool true) ∧ Below w.heap.size w w' := by
  obtain ⟨i0, hi, hz0, hz1, hz2⟩ := info_parts Tryd.info3
  have hz := fun W => big_x (w := W) a n cap hn
  by_cases h : n ≤ 1048576
  · rw [decide_eq_false (show ¬ (1048576 : Int) < (n : Int) by omega)] at hz
    have hd := dard_x (cap := cap) hr h
    have HS : Hid (Prs w) := hs
    clear hr hs
    go_enter Tryd.func4, Tryd.ntmps4
    go_wp2_with (first | (go_at_call 5; (with_reducible refine (hz _).mono ?_); rintro e w' ⟨rfl, hw⟩; obtain rfl := hw.symm) | (go_at_call 10; refine hd.mono ?_; rintro e w1 ⟨u, v, p, q, xs0, ys0, rfl, hp, hq, hoa, hob, hap, hb1⟩; have TP : Hid (TwoP w w1 u v p q) := ⟨⟨xs0, hoa⟩, ⟨ys0, hob⟩, hap, hb1⟩; clear hb1 hoa hob hap xs0 ys0))
    clear hd hz
    go_loopw [3] (fun av wr => ∃ k, k ≤ 70 ∧ (p = k ∨ k ≤ 8) ∧ Hid (TwoP w wr av v k q)) (fun av _ => 8 - lenOf av)
    case atStart => exact ⟨p, by omega, .inl rfl, TP.out⟩
    case round =>
      obtain ⟨k, hk, hk2, hcur⟩ := hrel
      obtain ⟨xs, hoa⟩ := hcur.out.oa
      obtain ⟨ao, cp, hsh, hcp, _⟩ := il_of_own hoa
      subst hsh
      by_cases h1 : k < 8
      · have HO3 := own_below hoa (below_one wr (.cells #[.int .i64 0] 3))
        have hs3 : w.heap.size ≤ (wr.alloc (.cells #[.int .i64 0] 3)).heap.size := ((hcur.out.one (.cells #[.int .i64 0] 3)).bl).size
        clear hoa
        go_wp2_with (at_builtin; refine wpList_app _ rfl _ _ 24 rfl w.heap.size 3 i0 (.int .i64 0) 1 8 Tryd.underlying24 hi hz0 hz1 hz2 rfl (by decide) _ _ _ rfl HO3 ⟨wr.heap.size, 0, none⟩ 1 1 [.int .i64 0] rfl rfl (one_new _ _ _) (by simp [Value.oneCell']) (by unfold maxLen; omega) (by omega) hs3 (by omega) ?_)
        intro v' w7 hown' hgrow hbk
        have T7 : Hid (TwoP w w7 v' v (k + 1) q) := (hcur.out.one _).appA HO3 hown' hgrow (by first | exact hbk | simpa using hbk)
        obtain ⟨ao', cp', hsh', _, _⟩ := il_of_own (by rw [ils_app] at hown'; exact hown')
        subst hsh'
        clear hown' hgrow hbk HO3
        go_wp2
        go_roundw
        case rel => exact ⟨k + 1, by omega, .inr (by omega), T7.out⟩
        case measure => simp [lenOf]; omega
      · have hcur2 : Hid (TwoP w wr (.slice ao k cp) v k q) := hcur
        clear hcur
        obtain ⟨wa, rfl⟩ : ∃ wa, wa = wr := ⟨wr, rfl⟩
        go_wp2
        go_loopw [4] (fun bv wr => ∃ j, j ≤ 70 ∧ (q = j ∨ j ≤ 8) ∧ Hid (TwoP w wr (.slice ao k cp) bv k j)) (fun bv _ => 8 - lenOf bv)
        case atStart => exact ⟨q, by omega, .inl rfl, hcur2.out⟩
        case round =>
          obtain ⟨j, hj, hj2, hcur⟩ := hrel
          obtain ⟨ys, hob⟩ := hcur.out.ob
          obtain ⟨bo, cq, hsh, hcq, _⟩ := il_of_own hob
          subst hsh
          by_cases h2 : j < 8
          · have HO3 := own_below hob (below_one wr (.cells #[.int .i64 1] 3))
            have hs3 : w.heap.size ≤ (wr.alloc (.cells #[.int .i64 1] 3)).heap.size := ((hcur.out.one (.cells #[.int .i64 1] 3)).bl).size
            clear hob
            go_wp2_with (at_builtin; refine wpList_app _ rfl _ _ 24 rfl w.heap.size 3 i0 (.int .i64 0) 1 8 Tryd.underlying24 hi hz0 hz1 hz2 rfl (by decide) _ _ _ rfl HO3 ⟨wr.heap.size, 0, none⟩ 1 1 [.int .i64 1] rfl rfl (one_new _ _ _) (by simp [Value.oneCell']) (by unfold maxLen; omega) (by omega) hs3 (by omega) ?_)
            intro v' w7 hown' hgrow hbk
            have T7 : Hid (TwoP w w7 (.slice ao k cp) v' k (j + 1)) := (hcur.out.one _).appB HO3 hown' hgrow (by first | exact hbk | simpa using hbk)
            obtain ⟨ao', cp', hsh', _, _⟩ := il_of_own (by rw [ils_app] at hown'; exact hown')
            subst hsh'
            clear hown' hgrow hbk HO3
            go_wp2
            go_roundw
            case rel => exact ⟨j + 1, by omega, .inr (by omega), T7.out⟩
            case measure => simp [lenOf]; omega
          · obtain ⟨xs, hoa⟩ := hcur.out.oa
            obtain ⟨wb, rfl⟩ : ∃ wb, wb = wr := ⟨wr, rfl⟩
            have BL : Hid (Below w.heap.size w wb) := hcur.out.bl
            have SP : Hid (Prs wb) := HS.out.below hcur.out.bl
            rcases hoa.2 with ⟨_, h0⟩ | ⟨g, c1, cur, hv1, _, _, _, _⟩
            · exfalso; omega
            rcases hob.2 with ⟨_, h0⟩ | ⟨g2, c2, cur2, hv2, _, _, _, _⟩
            · exfalso; omega
            injection hv1 with e1 e2 e3
            injection hv2 with e4 e5 e6
            subst e1 e3 e4 e6
            have FA : Hid (Il wb (.slice (some ⟨g, 0, none⟩) 8 cp) 8 xs) := il_cut (il_of_own hoa) (by omega)
            have FB : Hid (Il wb (.slice (some ⟨g2, 0, none⟩) 8 cq) 8 ys) := il_cut (il_of_own hob) (by omega)
            clear hoa hob hcur hcur2 e2 e5 HS TP
            have h8 : 8 ≤ cp := by omega
            have h9 : 8 ≤ cq := by omega
            by_cases hg : Tps 8 xs ∧ Tps 8 ys
            · obtain ⟨fa, fb, fc, ja, jb, jc, hprod⟩ := dft_three xs ys
              have HG : Hid (Tps 8 xs ∧ Tps 8 ys) := hg
              have JA : Hid _ := ja
              have JB : Hid _ := jb
              have JC : Hid _ := jc
              have HP : Hid (∀ t, fc t = fa t * fb t % 998244353 ∧ 0 ≤ fa t ∧ fa t < 998244353 ∧ 0 ≤ fb t ∧ fb t < 998244353) := hprod
              clear hg ja jb jc hprod
              go_wp2_with (first
                | (go_at_call 11; (fail_if_success have := M1); refine (iArd_yes (FA.out.below (below_drewN (Below.refl _ _) _)) (FB.out.below (below_drewN (Below.refl _ _) _)) HG.out.1 HG.out.2 (by omega) rfl).mono ?_; rintro e w2 ⟨cv, rfl, ho, hb0⟩; have hb := bstep (below_drewN (Below.refl wb.heap.size wb) _) hb0; have M1 : Hid True := trivial; have FA : Hid (Il w2 (.slice (some ⟨g, 0, none⟩) 8 cp) 8 xs) := Il.below FA.out hb; have FB : Hid (Il w2 (.slice (some ⟨g2, 0, none⟩) 8 cq) 8 ys) := Il.below FB.out hb; have BL : Hid (Below w.heap.size w w2) := bstep BL.out hb; have SP : Hid (Prs w2) := SP.out.below hb; have FC : Hid (Il w2 cv 8 (cvf 8 xs ys 8 8)) := il_of_own ho; clear ho hb hb0)
                | (go_at_call 12; refine (sArd_yes FA.out FB.out HG.out.1 HG.out.2 (by omega) (by omega) rfl).mono ?_; rintro e w3 ⟨tv, rfl, ho, hb⟩; have FA : Hid (Il w3 (.slice (some ⟨g, 0, none⟩) 8 cp) 8 xs) := Il.below FA.out hb; have FB : Hid (Il w3 (.slice (some ⟨g2, 0, none⟩) 8 cq) 8 ys) := Il.below FB.out hb; have FC : Hid (Il w3 cv 8 (cvf 8 xs ys 8 8)) := Il.below FC.out hb; have BL : Hid (Below w.heap.size w w3) := bstep BL.out hb; have SP : Hid (Prs w3) := SP.out.below hb; clear ho hb)
                | (go_at_call 13; (fail_if_success have := R1); refine (resid_any FA.out (by omega)).mono ?_; rintro e w4 ⟨ra, rfl, ho, hb⟩; have R1 : Hid True := trivial; have FB : Hid (Il w4 (.slice (some ⟨g2, 0, none⟩) 8 cq) 8 ys) := Il.below FB.out hb; have FC : Hid (Il w4 cv 8 (cvf 8 xs ys 8 8)) := Il.below FC.out hb; have BL : Hid (Below w.heap.size w w4) := bstep BL.out hb; have SP : Hid (Prs w4) := SP.out.below hb; have FR : Hid (Il w4 ra 8 (rs xs)) := il_of_own ho; clear ho hb)
                | (go_at_call 7; have Z := R1; (fail_if_success have := D1); (with_reducible refine (JA.out _ _ SP.out FR.out).mono ?_); rintro e w5 ⟨xv, rfl, ho, hb⟩; have D1 : Hid True := trivial; have FB : Hid (Il w5 (.slice (some ⟨g2, 0, none⟩) 8 cq) 8 ys) := Il.below FB.out hb; have FC : Hid (Il w5 cv 8 (cvf 8 xs ys 8 8)) := Il.below FC.out hb; have BL : Hid (Below w.heap.size w w5) := bstep BL.out hb; have SP : Hid (Prs w5) := SP.out.below hb; have FX : Hid (Il w5 xv 8 fa) := il_of_own ho; clear ho hb; obtain ⟨xo, xc, hxv, _, _⟩ := FX.out; subst hxv)
                | (go_at_call 13; have Z := D1; (fail_if_success have := R2); refine (resid_any FB.out (by omega)).mono ?_; rintro e w6 ⟨rb, rfl, ho, hb⟩; have R2 : Hid True := trivial; have FC : Hid (Il w6 cv 8 (cvf 8 xs ys 8 8)) := Il.below FC.out hb; have FX : Hid (Il w6 (.slice xo 8 xc) 8 fa) := Il.below FX.out hb; have BL : Hid (Below w.heap.size w w6) := bstep BL.out hb; have SP : Hid (Prs w6) := SP.out.below hb; have FR : Hid (Il w6 rb 8 (rs ys)) := il_of_own ho; clear ho hb)
                | (go_at_call 7; have Z := R2; (fail_if_success have := D2); (with_reducible refine (JB.out _ _ SP.out FR.out).mono ?_); rintro e w7 ⟨yv, rfl, ho, hb⟩; have D2 : Hid True := trivial; have FC : Hid (Il w7 cv 8 (cvf 8 xs ys 8 8)) := Il.below FC.out hb; have FX : Hid (Il w7 (.slice xo 8 xc) 8 fa) := Il.below FX.out hb; have BL : Hid (Below w.heap.size w w7) := bstep BL.out hb; have SP : Hid (Prs w7) := SP.out.below hb; have FY : Hid (Il w7 yv 8 fb) := il_of_own ho; clear ho hb; obtain ⟨yo, yc, hyv, _, _⟩ := FY.out; subst hyv)
                | (go_at_call 13; have Z := D2; (fail_if_success have := R3); refine (resid_any FC.out (by omega)).mono ?_; rintro e w8 ⟨rc, rfl, ho, hb⟩; have R3 : Hid True := trivial; have FX : Hid (Il w8 (.slice xo 8 xc) 8 fa) := Il.below FX.out hb; have FY : Hid (Il w8 (.slice yo 8 yc) 8 fb) := Il.below FY.out hb; have BL : Hid (Below w.heap.size w w8) := bstep BL.out hb; have SP : Hid (Prs w8) := SP.out.below hb; have FR : Hid (Il w8 rc 8 (rs (cvf 8 xs ys 8 8))) := il_of_own ho; clear ho hb)
                | (go_at_call 7; have Z := R3; (with_reducible refine (JC.out _ _ SP.out FR.out).mono ?_); rintro e w9 ⟨zv, rfl, ho, hb⟩; have FX : Hid (Il w9 (.slice xo 8 xc) 8 fa) := Il.below FX.out hb; have FY : Hid (Il w9 (.slice yo 8 yc) 8 fb) := Il.below FY.out hb; have BL : Hid (Below w.heap.size w w9) := bstep BL.out hb; have SP : Hid (Prs w9) := SP.out.below hb; have FZ : Hid (Il w9 zv 8 fc) := il_of_own ho; clear ho hb; obtain ⟨zo, zc, hzv, _, _⟩ := FZ.out; subst hzv)
                | (go_quiet (fail)))
              obtain ⟨b1, o1, rfl, hl1, c1'⟩ := FX.out.at (by omega)
              obtain ⟨b2, o2, rfl, hl2, c2'⟩ := FY.out.at (by omega)
              obtain ⟨b3, o3, rfl, hl3, c3'⟩ := FZ.out.at (by omega)
              have C1 : Hid (∀ k, k < 8 → w9.cell? ⟨b1, o1 + k, none⟩ = some (.int .i64 (fa k))) := c1'
              have C2 : Hid (∀ k, k < 8 → w9.cell? ⟨b2, o2 + k, none⟩ = some (.int .i64 (fb k))) := c2'
              have C3 : Hid (∀ k, k < 8 → w9.cell? ⟨b3, o3 + k, none⟩ = some (.int .i64 (fa k * fb k % 998244353))) := fun k hk => by rw [c3' k hk, (HP.out k).1]
              clear c1' c2' c3'
              go_loopw [18] (fun i wr => ∃ t : Nat, i = .int .i64 t ∧ t ≤ 8 ∧ Hid (Below w9.heap.size w9 wr)) (fun i _ => 8 - (intOf i).toNat)
              case atStart => exact ⟨0, rfl, by omega, Below.refl _ _⟩
              case round =>
                obtain ⟨t, rfl, ht, hbl⟩ := hrel
                by_cases h3 : t < 8
                · have d1 := (hbl.out.cell (p := ⟨b1, o1 + t, none⟩) hl1).trans (C1.out t h3)
                  have d2 := (hbl.out.cell (p := ⟨b2, o2 + t, none⟩) hl2).trans (C2.out t h3)
                  have d3 := (hbl.out.cell (p := ⟨b3, o3 + t, none⟩) hl3).trans (C3.out t h3)
                  obtain ⟨_, p1, p2, p3, p4⟩ := HP.out t
                  have pm := mul_lt (a := fa t) (b := fb t) (p := 998244353) p1 p2 p3 p4 (by omega)
                  go_wp2_with (go_quiet (fail))
                  go_roundw
                  case rel => exact ⟨t + 1, by go_num, by omega, below_drewN hbl.out _⟩
                  case measure => simp [intOf]; omega
                · obtain rfl : t = 8 := by omega
                  go_wp2
                  go_ret
                  exact ⟨rfl, bstep BL.out hbl.out⟩
            · have HG : Hid (¬ (Tps 8 xs ∧ Tps 8 ys)) := hg
              clear hg
              go_wp2_with (first
                | (go_at_call 11; (fail_if_success have := M1); refine (iArd_no (FA.out.below (below_drewN (Below.refl _ _) _)) (FB.out.below (below_drewN (Below.refl _ _) _)) (by omega) (by omega) (fun h => HG.out ⟨h.1, h.2.1⟩) (fun _ => 0)).mono ?_; rintro e w2 ⟨cv, rfl, ho, hb0⟩; have hb := bstep (below_drewN (Below.refl wb.heap.size wb) _) hb0; have M1 : Hid True := trivial; have FA : Hid (Il w2 (.slice (some ⟨g, 0, none⟩) 8 cp) 8 xs) := Il.below FA.out hb; have FB : Hid (Il w2 (.slice (some ⟨g2, 0, none⟩) 8 cq) 8 ys) := Il.below FB.out hb; have BL : Hid (Below w.heap.size w w2) := bstep BL.out hb; have SP : Hid (Prs w2) := SP.out.below hb; clear ho hb hb0)
                | (go_at_call 12; refine (sArd_no FA.out FB.out (by omega) (by omega) (fun h => HG.out ⟨h.1, h.2.1⟩) (fun _ => 0)).mono ?_; rintro e w3 ⟨tv, rfl, ho, hb⟩; have FA : Hid (Il w3 (.slice (some ⟨g, 0, none⟩) 8 cp) 8 xs) := Il.below FA.out hb; have FB : Hid (Il w3 (.slice (some ⟨g2, 0, none⟩) 8 cq) 8 ys) := Il.below FB.out hb; have BL : Hid (Below w.heap.size w w3) := bstep BL.out hb; have SP : Hid (Prs w3) := SP.out.below hb; clear ho hb)
                | (go_at_call 11; have Z := M1; (with_reducible refine (ard_two w3).mono ?_); rintro e w5 ⟨xv, rfl, ho5, hb5⟩; have O5 : Hid (Il w5 xv 2 (two 11 10)) := il_of_own ho5; have B5 : Hid (Below w.heap.size w w5) := bstep (bstep (bstep BL.out (below_one w3 (.cells #[.int .i64 1, .int .i64 2] 3))) (below_one _ (.cells #[.int .i64 3, .int .i64 4] 3))) hb5; clear ho5 hb5)
                | (go_at_call 9; refine (eq_yes (Il.below O5.out (below_one w5 (.cells #[.int .i64 11, .int .i64 10] 3))) (il_two w5 11 10) (by omega)).mono ?_; rintro e w6 ⟨rfl, hb6⟩; have B6 : Hid (Below w.heap.size w w6) := bstep (bstep B5.out (below_one w5 (.cells #[.int .i64 11, .int .i64 10] 3))) hb6; clear hb6)
                | (go_quiet (fail)))
              go_ret
              exact ⟨rfl, B6.out⟩
  · rw [decide_eq_true (show (1048576 : Int) < (n : Int) by omega)] at hz
    clear hr hs
    go_enter Tryd.func4, Tryd.ntmps4
    go_wp2_with (go_at_call 5; (with_reducible refine (hz _).mono ?_); rintro e w' ⟨rfl, hw⟩; obtain rfl := hw.symm)
    go_ret
    exact ⟨rfl, Below.refl _ _⟩
end Go.Proofs.YtbbbahbbfaglbaaDoor
