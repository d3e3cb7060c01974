/- FnDrifted: the law. -/
import Derived.Test.YtpgoagomhcfinaaVG
import Derived.Deep.Cut
namespace Go.Proofs.Ytpgoagomhcfinaa
open Go.RowKit

theorem drifted_big {w : World} {a : Option Addr} {len cap : Nat} (h : 1048576 < len) (hl : len ≤ 9223372036854775807) : Calls Try.prog 3 #[.slice a len cap] w fun e w' => e = .returned (.bool true) ∧ Below w.heap.size w w' := by
  have i1 := big_x (w := w) a len cap hl
  rw [decide_eq_true (by omega)] at i1
  go_enter Try.func3, Try.ntmps3
  go_wp2_with (first | (go_at_call 4; refine i1.mono ?_; rintro e w' ⟨rfl, hw⟩; obtain rfl := hw.symm))
  go_ret
  exact ⟨rfl, Below.refl _ _⟩

set_option maxRecDepth 100000 in
set_option maxHeartbeats 8000000 in
theorem drifted_small {w : World} {a : Option Addr} {len cap : Nat} (hr : Row w a len) (h : len ≤ 1048576) : Calls Try.prog 3 #[.slice a len cap] w fun e w' => e = .returned (.bool true) ∧ Below w.heap.size w w' := by
  have i1 := big_x (w := w) a len cap (by omega)
  rw [decide_eq_false (by omega)] at i1
  have HD : Hid (Calls Try.prog 5 #[.slice a len cap] w fun e w' => ∃ (u : Value) (i j k : Int), e = .returned (.tuple #[u, .int .i64 i, .int .i64 j, .int .i64 k]) ∧ Hid ((∃ n ys, n ≤ 513 ∧ Il w' u n ys) ∧ Below w.heap.size w w')) := ddrift_x hr h
  have HR : Hid (Row w a len) := hr
  clear hr
  go_enter Try.func3, Try.ntmps3
  go_upto_region 4 with (first
    | (go_at_call 4; (with_reducible refine i1.mono ?_); rintro e w' ⟨rfl, hw⟩; obtain rfl := hw.symm)
    | (go_at_call 5; (with_reducible refine HD.out.mono ?_); rintro e w1 ⟨u, nu, de, st, rfl, hq⟩; obtain ⟨⟨n, ys, hn, hil⟩, hb⟩ := hq.out; have U1 : Hid (Il w1 u n ys) := hil; have B1 : Hid (Below w.heap.size w w1) := hb; obtain ⟨uo, uc, rfl, huc, hcu⟩ := hil; clear hb hq hcu))
  go_cut [41] from 18 (fun c wx => ∃ g : Bool, c = .bool g ∧ wx = w1 ∧ Hid (g = false → Sig n ys ∧ 1 ≤ de ∧ de ≤ 1000))
  case first =>
    have i2 := sSig_any U1.out (by omega)
    by_cases hs : Sig n ys
    · rw [decide_eq_true hs] at i2
      have HS : Hid (Sig n ys) := hs
      clear hs
      by_cases c1 : de < 1
      · go_wp2_with (first | (go_at_call 6; (with_reducible refine i2.mono ?_); rintro e w' ⟨rfl, hw⟩; obtain rfl := hw.symm))
        go_meet
        exact ⟨_, rfl, rfl, fun h => (by cases h)⟩
      · by_cases c2 : 1000 < de
        · go_wp2_with (first | (go_at_call 6; (with_reducible refine i2.mono ?_); rintro e w' ⟨rfl, hw⟩; obtain rfl := hw.symm))
          go_meet
          exact ⟨_, rfl, rfl, fun h => (by cases h)⟩
        · go_wp2_with (first | (go_at_call 6; (with_reducible refine i2.mono ?_); rintro e w' ⟨rfl, hw⟩; obtain rfl := hw.symm))
          go_meet
          exact ⟨_, rfl, rfl, fun _ => ⟨HS.out, by omega, by omega⟩⟩
    · rw [decide_eq_false hs] at i2
      clear hs
      go_wp2_with (first | (go_at_call 6; (with_reducible refine i2.mono ?_); rintro e w' ⟨rfl, hw⟩; obtain rfl := hw.symm))
      go_meet
      exact ⟨_, rfl, rfl, fun h => (by cases h)⟩
  case rest =>
  obtain ⟨g, rfl, rfl, hg⟩ := hcut
  go_upto_if 41 with fail
  go_cut [3, 5] from 18 (fun l d wx => ∃ uo n uc xs d0, l = .slice uo n uc ∧ d = .int .i64 d0 ∧ n ≤ uc ∧ n ≤ 512 ∧ (1 ≤ d0 ∧ d0 ≤ 1000) ∧ Hid (Sig n xs ∧ Il wx (.slice uo n uc) n xs ∧ Below w.heap.size w wx))
  case first =>
    cases g
    · have hh := hg.out rfl
      have h5 := hh.1.1
      have HS : Hid (Sig n ys) := hh.1
      have hde := hh.2
      clear hh hg
      go_wp2
      go_meet
      exact ⟨_, _, _, _, _, rfl, rfl, huc, h5, hde, HS.out, U1.out, B1.out⟩
    · have L1 : Hid (Il (wc.alloc (.cells #[.int .i64 4, .int .i64 6, .int .i64 9] 3)) (.slice (some ⟨wc.heap.size, 0, none⟩) 3 3) 3 lit469 ∧ Below w.heap.size w (wc.alloc (.cells #[.int .i64 4, .int .i64 6, .int .i64 9] 3))) := ⟨lit469_il wc, bstep B1.out (below_one _ _)⟩
      clear hg
      go_wp2
      go_meet
      exact ⟨_, _, _, _, _, rfl, rfl, by omega, by omega, by omega, lit469_sig, L1.out⟩
  case rest =>
    clear U1 B1 HD i1 huc hn
    obtain ⟨lo, N, lc, xs, d, rfl, rfl, hlc, h5, hd, hH⟩ := hcut
    rename World => wq
    have i3 := at_0 (cap := cap) (HR.out.below hH.out.2.2) h
    go_upto_region 13 with (first
      | (go_at_call 7; (fail_if_success have := M1); (with_reducible refine i3.mono ?_); rintro e w' ⟨m0, hm0, rfl, hw⟩; obtain rfl := hw.symm; have M1 : Hid True := trivial; obtain ⟨b, hb⟩ : ∃ b : Nat, 1 + m0 % 16 = (b : Int) := ⟨(1 + m0 % 16).toNat, by omega⟩; have hb2 : 1 ≤ b ∧ b ≤ 16 := (by omega); have p1 := mul_in (a := (b : Int)) (b := d) (A := 16) (B := 1000) (by omega) (by omega) (by omega))
      | (go_at_call 8; (fail_if_success have := M2); (with_reducible refine (dr_x hH.out.2.1 hH.out.1 hb2 hd).mono ?_); rintro e w3 ⟨xv, rfl, ho, hb3⟩; have M2 : Hid True := trivial; have X3 : Hid (Il w3 xv (dN N b 0) (drF N xs ((b : Int) * d) d 0) ∧ Below wq.heap.size wq w3) := ⟨il_of_own ho, hb3⟩; clear ho hb3)
      | (go_at_call 9; (with_reducible refine (dn_first (hH.out.2.1.below X3.out.2) hH.out.1 (by omega)).mono ?_); rintro e w4 ⟨yv, rfl, ho, hb3⟩; have Y4 : Hid (Il w4 yv (dN N b 0) (thF b 0 xs) ∧ Below w3.heap.size w3 w4) := ⟨il_of_own ho, hb3⟩; have i4 := at_1 (cap := cap) (((HR.out.below hH.out.2.2).below X3.out.2).below hb3) h; clear ho hb3)
      | (go_at_call 7; have Z := M1; (with_reducible refine i4.mono ?_); rintro e w' ⟨m1, hm1, rfl, hw⟩; obtain rfl := hw.symm; obtain ⟨l, hl⟩ : ∃ l : Nat, m1 % 9 = (l : Int) := ⟨(m1 % 9).toNat, by omega⟩; have hl2 : l ≤ 8 := (by omega); have p2 := mul_in (a := (l : Int)) (b := d) (A := 8) (B := 1000) (by omega) (by omega) (by omega))
      | (go_at_call 10; (with_reducible refine (dl_x ((hH.out.2.1.below X3.out.2).below Y4.out.2) hH.out.1 hl2 hd).mono ?_); rintro e w5 ⟨zv, rfl, ho, hb3⟩; have Z5 : Hid (Il w5 zv N (dlF N xs ((l : Int) * d) d) ∧ Below w4.heap.size w4 w5) := ⟨il_of_own ho, hb3⟩; obtain ⟨zo, zc, rfl, hzc, hcz⟩ := il_of_own ho; clear ho hb3 hcz)
      | (go_at_call 11; (fail_if_success have := M3); (with_reducible refine (same_yes ((X3.out.1.below Y4.out.2).below Z5.out.2) (Y4.out.1.below Z5.out.2) (Nat.le_trans (dN_le N b 0 (by omega)) (by omega)) (fun k hk => drift_thin (by omega) hd.1 hk)).mono ?_); rintro e w6 ⟨rfl, hb3⟩; have M3 : Hid True := trivial; have B6 : Hid (Below w5.heap.size w5 w6) := hb3; clear hb3))
    have BW : Hid (Below w.heap.size w w6) := bstep (bstep (bstep (bstep hH.out.2.2 X3.out.2) Y4.out.2) Z5.out.2) B6.out
    have ZI : Hid (Il w6 (.slice zo N zc) N (dlF N xs ((l : Int) * d) d)) := Z5.out.1.below B6.out
    have LI : Hid (Il w6 (.slice lo N lc) N xs) := (((hH.out.2.1.below X3.out.2).below Y4.out.2).below Z5.out.2).below B6.out
    have ZC : Hid (0 < N → ∃ b off, zo = some ⟨b, off, none⟩ ∧ b < w6.heap.size ∧ ∀ k, k < N → w6.cell? ⟨b, off + k, none⟩ = some (.int .i64 (dlF N xs ((l : Int) * d) d k))) := by
      obtain ⟨ao, c, e, _, hh⟩ := ZI.out
      injection e with e1 e2 e3
      subst e1
      exact hh
    have LC : Hid (0 < N → ∃ b off, lo = some ⟨b, off, none⟩ ∧ b < w6.heap.size ∧ ∀ k, k < N → w6.cell? ⟨b, off + k, none⟩ = some (.int .i64 (xs k))) := by
      obtain ⟨ao, c, e, _, hh⟩ := LI.out
      injection e with e1 e2 e3
      subst e1
      exact hh
    clear ZI LI Z5 Y4 X3 B6 hH i3 i4 p1 p2 hb hl HR M1 M2 Z
    go_wp2
    go_loopw [15] (fun i wr => ∃ k : Nat, i = .int .i64 k ∧ k ≤ N ∧ Hid (Below w6.heap.size w6 wr)) (fun i _ => N - (intOf i).toNat)
    case atStart => exact ⟨0, rfl, by omega, Below.refl _ _⟩
    case round =>
      obtain ⟨k, rfl, hk, hrel⟩ := hrel
      by_cases h1 : k < N
      · obtain ⟨bz, oz, rfl, hbz, hcz⟩ := ZC.out (by omega)
        obtain ⟨bl, ol, rfl, hbl, hcl⟩ := LC.out (by omega)
        have cz := (hrel.out.cell (p := ⟨bz, oz + k, none⟩) hbz).trans (hcz k h1)
        by_cases h2 : k < l
        · rw [delay_early hd.1 h2] at cz
          clear hcz hcl
          have hb1 : decide ((k : Int) < (l : Int)) = true := decide_eq_true (by omega)
          have hb2 : decide ((k : Int) ≥ (l : Int)) = false := decide_eq_false (by omega)
          have hb3 : decide ((l : Int) ≤ (k : Int)) = false := decide_eq_false (by omega)
          have hb4 : ((0 : Int) != 0) = false := by decide
          have hb5 : decide (l ≤ k) = false := decide_eq_false (by omega)
          have hb6 : decide (k < l) = true := decide_eq_true h2
          go_wp2_with (go_quiet (fail))
          go_roundw
          case rel => exact ⟨k + 1, by go_num, by omega, by first | exact hrel.out | exact below_drewN hrel.out _⟩
          case measure => simp [intOf]; omega
        · rw [delay_late hd.1 (by omega) h1] at cz
          obtain ⟨q, hq⟩ : ∃ q : Nat, q = k - l := ⟨_, rfl⟩
          have eq : (k : Int) - (l : Int) = (q : Int) := by omega
          have hqN : q < N := by omega
          have cl := (hrel.out.cell (p := ⟨bl, ol + q, none⟩) hbl).trans (hcl q hqN)
          rw [← hq] at cz
          generalize xs q = y at cz cl
          clear hcz hcl hq
          have hb1 : decide ((k : Int) < (l : Int)) = false := decide_eq_false (by omega)
          have hb2 : decide ((k : Int) ≥ (l : Int)) = true := decide_eq_true (by omega)
          have hb3 : decide ((l : Int) ≤ (k : Int)) = true := decide_eq_true (by omega)
          have hb4 : (y != y) = false := by simp
          have hb5 : decide (l ≤ k) = true := decide_eq_true (by omega)
          have hb6 : decide (k < l) = false := decide_eq_false h2
          have hb7 : l ≤ k := by omega
          go_wp2_with (go_quiet (fail))
          go_roundw
          case rel => exact ⟨k + 1, by go_num, by omega, by first | exact hrel.out | exact below_drewN hrel.out _⟩
          case measure => simp [intOf]; omega
      · obtain rfl : N = k := by omega
        have BR : Hid (Below w.heap.size w wr) := bstep BW.out hrel.out
        clear ZC LC BW hrel
        go_wp2_with (first
          | (go_at_call 8; (with_reducible refine (half_x wr).mono ?_); rintro e w7 ⟨hv, rfl, ho, hb3⟩; have H7 : Hid (Il w7 hv 3 (drF 2 lit10 1 2 0) ∧ Below w.heap.size w w7) := ⟨il_of_own ho, bstep BR.out (bstep (below_one _ _) hb3)⟩; clear ho hb3)
          | (go_at_call 11; (with_reducible refine (same_yes (H7.out.1.below (below_one _ _)) (lit510_il w7) (by omega) lit10_half).mono ?_); rintro e w8 ⟨rfl, hb3⟩; have B8 : Hid (Below w.heap.size w w8) := bstep H7.out.2 (bstep (below_one _ _) hb3); clear hb3))
        go_ret
        exact ⟨rfl, B8.out⟩

theorem walk_drifted {w : World} {a : Option Addr} {len cap : Nat} (hr : Row w a len) (hl : len ≤ 9223372036854775807) : Calls Try.prog 3 #[.slice a len cap] w fun e w' => e = .returned (.bool true) ∧ Below w.heap.size w w' := by
  rcases Nat.lt_or_ge 1048576 len with h | h
  · exact drifted_big h hl
  · exact drifted_small hr h
end Go.Proofs.Ytpgoagomhcfinaa
