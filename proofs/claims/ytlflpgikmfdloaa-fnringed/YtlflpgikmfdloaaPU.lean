/- FnRinged: the law. -/
import Derived.Test.YtlflpgikmfdloaaPT
import Derived.Deep.Cut
namespace Go.Proofs.Ytlflpgikmfdloaa
open Go.RowKit

theorem ringed_big {w : World} {a : Option Addr} {len cap : Nat} (h : 1048576 < len) (hl : len ≤ 9223372036854775807) : Calls Try.prog 3 #[.slice a len cap] w fun e w' => e = .returned (.bool true) ∧ Below w.heap.size w w' := by
  have i1 := big_x (w := w) a len cap hl
  rw [decide_eq_true (by omega)] at i1
  go_enter Try.func3, Try.ntmps3
  go_wp2_with (first | (go_at_call 4; refine i1.mono ?_; rintro e w' ⟨rfl, hw⟩; obtain rfl := hw.symm))
  go_ret
  exact ⟨rfl, Below.refl _ _⟩

set_option maxRecDepth 100000 in
set_option maxHeartbeats 8000000 in
theorem ringed_small {w : World} {a : Option Addr} {len cap : Nat} (hr : Row w a len) (h : len ≤ 1048576) : Calls Try.prog 3 #[.slice a len cap] w fun e w' => e = .returned (.bool true) ∧ Below w.heap.size w w' := by
  have i1 := big_x (w := w) a len cap (by omega)
  rw [decide_eq_false (by omega)] at i1
  have HD : Hid (Calls Try.prog 5 #[.slice a len cap] w fun e w' => ∃ (u v : Value) (o : Int), e = .returned (.tuple #[.agg #[u, .int .i64 o], v]) ∧ Hid ((∃ n ys, n ≤ 61 ∧ 0 ≤ o ∧ Il w' u n ys) ∧ (∃ m xs, m ≤ 513 ∧ Il w' v m xs) ∧ Below w.heap.size w w')) := dpush_x hr h
  clear hr
  go_enter Try.func3, Try.ntmps3
  go_upto_region 4 with (first
    | (go_at_call 4; (with_reducible refine i1.mono ?_); rintro e w' ⟨rfl, hw⟩; obtain rfl := hw.symm)
    | (go_at_call 5; (with_reducible refine HD.out.mono ?_); rintro e w1 ⟨u, v, o, rfl, hq⟩; obtain ⟨⟨n, cs, hn, ho, hu⟩, ⟨m, xs, hm, hv⟩, hb⟩ := hq.out; obtain ⟨uo, uc, rfl, huc, hcu⟩ := id hu; obtain ⟨vo, vc, rfl, hvc, hcv⟩ := id hv; have ba := below_one w1 (.cells #[.slice uo n uc, .int .i64 o] 26); have U1 : Hid (Il (w1.alloc (.cells #[.slice uo n uc, .int .i64 o] 26)) (.slice uo n uc) n cs) := hu.below ba; have V1 : Hid (Il (w1.alloc (.cells #[.slice uo n uc, .int .i64 o] 26)) (.slice vo m vc) m xs) := hv.below ba; have B1 : Hid (Below w.heap.size w (w1.alloc (.cells #[.slice uo n uc, .int .i64 o] 26))) := bstep hb ba; have R1 : Hid (Rg (w1.alloc (.cells #[.slice uo n uc, .int .i64 o] 26)) w1.heap.size (.slice uo n uc) (.int .i64 o)) := Rg.new _ _ _ _; have G1 : Hid (w.heap.size ≤ w1.heap.size) := hb.size; clear hu hv hb hq hcu hcv ba))
  generalize (w1.alloc (.cells #[.slice uo n uc, .int .i64 o] 26)) = W1 at *
  generalize w1.heap.size = g at *
  clear HD i1
  have c0 := R1.out.c0
  have c1 := R1.out.c1
  go_cut [43] from 14 (fun c wx => ∃ b : Bool, c = .bool b ∧ wx = W1 ∧ Hid (b = false → GPu n m cs xs o))
  case first =>
    have i2 := sSig_any U1.out (by omega)
    have i3 := sSig_any V1.out (by omega)
    by_cases h0 : n = 0
    · subst h0
      go_wp2
      go_meet
      exact ⟨_, rfl, rfl, fun h => (by cases h)⟩
    · have e0 : ((n : Int) == 0) = false := by simp; omega
      by_cases hs : Sig n cs
      · rw [decide_eq_true hs] at i2
        have HS : Hid (Sig n cs) := hs
        clear hs
        by_cases h1 : (n : Int) ≤ o
        · go_wp2_with (first | (go_at_call 6; (with_reducible refine i2.mono ?_); rintro e w' ⟨rfl, hw⟩; obtain rfl := hw.symm))
          go_meet
          exact ⟨_, rfl, rfl, fun h => (by cases h)⟩
        · by_cases hx : Sig m xs
          · rw [decide_eq_true hx] at i3
            have HX : Hid (Sig m xs) := hx
            clear hx
            go_wp2_with (first | (go_at_call 6; (with_reducible refine i2.mono ?_); rintro e w' ⟨rfl, hw⟩; obtain rfl := hw.symm) | (go_at_call 6; (with_reducible refine i3.mono ?_); rintro e w' ⟨rfl, hw⟩; obtain rfl := hw.symm))
            go_meet
            exact ⟨_, rfl, rfl, fun _ => ⟨⟨HS.out, ho, by omega⟩, HX.out⟩⟩
          · rw [decide_eq_false hx] at i3
            clear hx
            go_wp2_with (first | (go_at_call 6; (with_reducible refine i2.mono ?_); rintro e w' ⟨rfl, hw⟩; obtain rfl := hw.symm) | (go_at_call 6; (with_reducible refine i3.mono ?_); rintro e w' ⟨rfl, hw⟩; obtain rfl := hw.symm))
            go_meet
            exact ⟨_, rfl, rfl, fun h => (by cases h)⟩
      · rw [decide_eq_false hs] at i2
        clear hs
        go_wp2_with (first | (go_at_call 6; (with_reducible refine i2.mono ?_); rintro e w' ⟨rfl, hw⟩; obtain rfl := hw.symm))
        go_meet
        exact ⟨_, rfl, rfl, fun h => (by cases h)⟩
  case rest =>
  obtain ⟨b, rfl, rfl, hg⟩ := hcut
  go_upto_if 43 with fail
  go_cut [4] from 14 (fun l wx => ∃ uo n uc cs o lo N lc xs, l = .slice lo N lc ∧ N ≤ lc ∧ n ≤ uc ∧ Hid (Rg wx g (.slice uo n uc) (.int .i64 ((o : Nat) : Int)) ∧ Il wx (.slice uo n uc) n cs ∧ Il wx (.slice lo N lc) N xs ∧ GPu n N cs xs (o : Int) ∧ Below w.heap.size w wx))
  case first =>
    cases b
    · have hh := hg.out rfl
      obtain ⟨p, rfl⟩ : ∃ p : Nat, o = (p : Int) := ⟨o.toNat, by omega⟩
      have HH : Hid (GPu n m cs xs (p : Int)) := hh
      clear hh hg
      go_wp2
      go_meet
      exact ⟨_, _, _, _, _, _, _, _, _, rfl, hvc, huc, R1.out, U1.out, V1.out, HH.out, B1.out⟩
    · obtain ⟨_, _, z0, z1⟩ := R1.out
      have hgl := R1.out.lt
      have sV : (((wc.setCell ⟨g, 0, none⟩ (.slice (some ⟨wc.heap.size, 0, none⟩) 2 2)).setCell ⟨g, 1, none⟩ (.int .i64 1))).heap.size = wc.heap.size := by simp [World.setCell]
      have RV : Hid (Rg ((wc.setCell ⟨g, 0, none⟩ (.slice (some ⟨wc.heap.size, 0, none⟩) 2 2)).setCell ⟨g, 1, none⟩ (.int .i64 1)) g (.slice (some ⟨wc.heap.size, 0, none⟩) 2 2) (.int .i64 ((1 : Nat) : Int))) := (R1.out.put0 _).put1 _
      have BV : Hid (Below w.heap.size w ((wc.setCell ⟨g, 0, none⟩ (.slice (some ⟨wc.heap.size, 0, none⟩) 2 2)).setCell ⟨g, 1, none⟩ (.int .i64 1))) := (B1.out.setCell (p := ⟨g, 0, none⟩) G1.out _).setCell (p := ⟨g, 1, none⟩) G1.out _
      have I1 : Hid (Il ((((wc.setCell ⟨g, 0, none⟩ (.slice (some ⟨wc.heap.size, 0, none⟩) 2 2)).setCell ⟨g, 1, none⟩ (.int .i64 1))).alloc (.cells #[.int .i64 7, .int .i64 8] 3)) (.slice (some ⟨wc.heap.size, 0, none⟩) 2 2) 2 l78) := by
        have := l78_il ((wc.setCell ⟨g, 0, none⟩ (.slice (some ⟨wc.heap.size, 0, none⟩) 2 2)).setCell ⟨g, 1, none⟩ (.int .i64 1))
        rw [sV] at this
        exact this
      have I2 : Hid (Il (((((wc.setCell ⟨g, 0, none⟩ (.slice (some ⟨wc.heap.size, 0, none⟩) 2 2)).setCell ⟨g, 1, none⟩ (.int .i64 1))).alloc (.cells #[.int .i64 7, .int .i64 8] 3)).alloc (.cells #[.int .i64 1, .int .i64 2, .int .i64 3] 3)) (.slice (some ⟨wc.heap.size + 1, 0, none⟩) 3 3) 3 l123) := by
        have := l123_il ((((wc.setCell ⟨g, 0, none⟩ (.slice (some ⟨wc.heap.size, 0, none⟩) 2 2)).setCell ⟨g, 1, none⟩ (.int .i64 1))).alloc (.cells #[.int .i64 7, .int .i64 8] 3))
        rw [show ((((wc.setCell ⟨g, 0, none⟩ (.slice (some ⟨wc.heap.size, 0, none⟩) 2 2)).setCell ⟨g, 1, none⟩ (.int .i64 1))).alloc (.cells #[.int .i64 7, .int .i64 8] 3)).heap.size = wc.heap.size + 1 by simp [sV]] at this
        exact this
      clear hg sV
      go_wp2
      go_meet
      generalize ((wc.setCell ⟨g, 0, none⟩ (.slice (some ⟨wc.heap.size, 0, none⟩) 2 2)).setCell ⟨g, 1, none⟩ (.int .i64 1)) = V at *
      have bb := below_one V (.cells #[.int .i64 7, .int .i64 8] 3)
      have bc := below_one (V.alloc (.cells #[.int .i64 7, .int .i64 8] 3)) (.cells #[.int .i64 1, .int .i64 2, .int .i64 3] 3)
      exact ⟨_, _, _, _, 1, _, _, _, _, rfl, by omega, by omega, (RV.out.call bb).call bc, I1.out.below bc, I2.out, lit_good, bstep (bstep BV.out bb) bc⟩
  case rest =>
    clear U1 V1 R1 B1 c0 c1 huc hvc hn hm ho hg
    obtain ⟨uo, n, uc, cs, o, lo, N, lc, xs, rfl, hlc, huc, hH⟩ := hcut
    rename World => wq
    have hn := hH.out.2.2.2.1.1.1.1
    have hN := hH.out.2.2.2.1.2.1
    have ho := hH.out.2.2.2.1.1.2
    have c0 := hH.out.1.c0
    have c1 := hH.out.1.c1
    have i4 := iPush_good hH.out.2.1 hH.out.2.2.1 hH.out.2.2.2.1
    go_upto_region 10 with (first
      | (go_at_call 7; (with_reducible refine i4.mono ?_); rintro e w5 ⟨c2, u2, rfl, oc, ou, ap, hb⟩; obtain ⟨co, cc, rfl, hcc, hx1⟩ := il_of_own oc; obtain ⟨u2o, u2c, rfl, hu2, hx2⟩ := il_of_own ou; have ba := below_one w5 (.cells #[.slice co n cc, .int .i64 ((plc n o N : Nat) : Int)] 26); have RX : Hid (Rg (w5.alloc (.cells #[.slice co n cc, .int .i64 ((plc n o N : Nat) : Int)] 26)) g (.slice uo n uc) (.int .i64 (o : Int))) := (hH.out.1.call hb).call ba; have CI : Hid (Il (w5.alloc (.cells #[.slice co n cc, .int .i64 ((plc n o N : Nat) : Int)] 26)) (.slice uo n uc) n cs) := (hH.out.2.1.below hb).below ba; have LI : Hid (Il (w5.alloc (.cells #[.slice co n cc, .int .i64 ((plc n o N : Nat) : Int)] 26)) (.slice lo N lc) N xs) := (hH.out.2.2.1.below hb).below ba; have NI : Hid (Il (w5.alloc (.cells #[.slice co n cc, .int .i64 ((plc n o N : Nat) : Int)] 26)) (.slice co n cc) n (rcl n o cs xs N)) := (il_of_own oc).below ba; have OI : Hid (Il (w5.alloc (.cells #[.slice co n cc, .int .i64 ((plc n o N : Nat) : Int)] 26)) (.slice u2o N u2c) N (rtl n o cs xs)) := (il_of_own ou).below ba; have NX : Hid (Rg (w5.alloc (.cells #[.slice co n cc, .int .i64 ((plc n o N : Nat) : Int)] 26)) w5.heap.size (.slice co n cc) (.int .i64 ((plc n o N : Nat) : Int))) := Rg.new _ _ _ _; have BW : Hid (Below w.heap.size w (w5.alloc (.cells #[.slice co n cc, .int .i64 ((plc n o N : Nat) : Int)] 26))) := bstep (bstep hH.out.2.2.2.2 hb) ba; have f0 := RX.out.c0; have f1 := RX.out.c1; clear oc ou ap hb hx1 hx2 ba))
    have HG : Hid (GPu n N cs xs (o : Int)) := hH.out.2.2.2.1
    clear i4 c0 c1 f0 f1 hH
    generalize (w5.alloc (.cells #[.slice co n cc, .int .i64 ((plc n o N : Nat) : Int)] 26)) = W6 at *
    generalize w5.heap.size = g2 at *
    have CC : Hid (0 < n → ∃ b off, uo = some ⟨b, off, none⟩ ∧ b < W6.heap.size ∧ ∀ k, k < n → W6.cell? ⟨b, off + k, none⟩ = some (.int .i64 (cs k))) := by
      obtain ⟨ao, c, e, _, hh⟩ := CI.out
      injection e with e1 e2 e3
      subst e1
      exact hh
    have LC : Hid (0 < N → ∃ b off, lo = some ⟨b, off, none⟩ ∧ b < W6.heap.size ∧ ∀ k, k < N → W6.cell? ⟨b, off + k, none⟩ = some (.int .i64 (xs k))) := by
      obtain ⟨ao, c, e, _, hh⟩ := LI.out
      injection e with e1 e2 e3
      subst e1
      exact hh
    have OC : Hid (0 < N → ∃ b off, u2o = some ⟨b, off, none⟩ ∧ b < W6.heap.size ∧ ∀ k, k < N → W6.cell? ⟨b, off + k, none⟩ = some (.int .i64 (rtl n o cs xs k))) := by
      obtain ⟨ao, c, e, _, hh⟩ := OI.out
      injection e with e1 e2 e3
      subst e1
      exact hh
    have hn0 : 0 < n := by omega
    clear CI LI OI
    go_wp2
    go_loopw [9, 10] (fun i _ wr => ∃ k : Nat, i = .int .i64 k ∧ k ≤ N ∧ Hid (Below W6.heap.size W6 wr)) (fun i _ _ => N - (intOf i).toNat)
    case atStart => exact ⟨0, rfl, by omega, Below.refl _ _⟩
    case round =>
      obtain ⟨k, rfl, hk, hrel⟩ := hrel
      by_cases h1 : k < N
      · obtain ⟨bo, oo, rfl, hbo, hco⟩ := OC.out (by omega)
        have co1 := (hrel.out.cell (p := ⟨bo, oo + k, none⟩) hbo).trans (hco k h1)
        by_cases h2 : k < n
        · obtain ⟨bc, oc, rfl, hbc, hcc2⟩ := CC.out hn0
          obtain ⟨q, hq⟩ : ∃ q : Nat, q = (o + k) % n := ⟨_, rfl⟩
          have hqn : q < n := by rw [hq]; exact Nat.mod_lt _ hn0
          have eq1 : ((o : Int) + (k : Int)) % (n : Int) = (q : Int) := by rw [hq]; exact_mod_cast rfl
          have cc1 := (hrel.out.cell (p := ⟨bc, oc + q, none⟩) hbc).trans (hcc2 q hqn)
          have ex : rtl n o cs xs k = cs q := by rw [hq]; exact rtl_first h2
          rw [ex] at co1
          obtain ⟨f0, f1, _, _⟩ := RX.out.call hrel.out
          generalize cs q = y at co1 cc1
          have hnz : ¬ ((n : Int) = 0) := by omega
          have hb4 : (y != y) = false := by simp
          clear hco hcc2 ex hq
          go_wp2_with (go_quiet (fail))
          go_roundw
          case rel => exact ⟨k + 1, by go_num, by omega, by first | exact hrel.out | exact below_drewN hrel.out _⟩
          case measure => simp [intOf]; omega
        · obtain ⟨bl, ol, rfl, hbl, hcl⟩ := LC.out (by omega)
          obtain ⟨q, hq⟩ : ∃ q : Nat, q = k - n := ⟨_, rfl⟩
          have eq1 : (k : Int) - (n : Int) = (q : Int) := by omega
          have hqN : q < N := by omega
          have cl1 := (hrel.out.cell (p := ⟨bl, ol + q, none⟩) hbl).trans (hcl q hqN)
          have ex : rtl n o cs xs k = xs q := by rw [hq]; exact rtl_later hn0 (by omega)
          rw [ex] at co1
          generalize xs q = y at co1 cl1
          have hb4 : (y != y) = false := by simp
          clear hco hcl ex hq
          go_wp2_with (go_quiet (fail))
          go_roundw
          case rel => exact ⟨k + 1, by go_num, by omega, by first | exact hrel.out | exact below_drewN hrel.out _⟩
          case measure => simp [intOf]; omega
      · obtain rfl : N = k := by omega
        have HR0 : Hid (Below W6.heap.size W6 wr) := hrel.out
        clear hrel OC CC RX
        go_wp2
        go_loopw [11, 12, 13] (fun b _ _ wr2 => ∃ k : Nat, b = .int .i64 k ∧ 1 ≤ k ∧ k ≤ 513 ∧ Hid (Below W6.heap.size W6 wr2)) (fun b _ _ _ => 514 - (intOf b).toNat)
        case atStart => exact ⟨1, rfl, by omega, by omega, HR0.out⟩
        case round =>
          rename World => V0
          obtain ⟨k, rfl, hk1, hk, hrel⟩ := hrel
          by_cases h1 : k ≤ n
          · by_cases h2 : k ≤ N
            · obtain ⟨bl, ol, rfl, hbl, hcl⟩ := LC.out (by omega)
              obtain ⟨q, hq⟩ : ∃ q : Nat, q = N - k := ⟨_, rfl⟩
              have eq1 : (N : Int) - (k : Int) = (q : Int) := by omega
              have hqN : q < N := by omega
              have i8 := iTap_good (NI.out.below hrel.out) (o := ((plc n o N : Nat) : Int)) (b := (k : Int)) ⟨ring_on HG.out, by omega, by omega⟩
              rw [tap_back hn0 hk1 h1 h2, ← hq] at i8
              have LQ : Hid (∀ W, Below W6.heap.size W6 W → W.cell? ⟨bl, ol + q, none⟩ = some (.int .i64 (xs q))) := fun W hW => (hW.cell (p := ⟨bl, ol + q, none⟩) hbl).trans (hcl q hqN)
              obtain ⟨f0, f1, _, _⟩ := NX.out.call hrel.out
              generalize xs q = y at i8 LQ
              have hb4 : (y != y) = false := by simp
              clear hcl hq
              go_wp2_with (first | (go_at_call 8; (with_reducible refine i8.mono ?_); rintro e w7 ⟨rfl, hb7⟩; have B7 : Hid (Below W6.heap.size W6 w7) := bstep hrel.out hb7; have cl1 := LQ.out _ B7.out; clear hb7))
              go_roundw
              case rel => exact ⟨k + 1, by go_num, by omega, by omega, B7.out⟩
              case measure => simp [intOf]; omega
            · go_wp2
              go_ret
              exact ⟨rfl, bstep BW.out hrel.out⟩
          · go_wp2
            go_ret
            exact ⟨rfl, bstep BW.out hrel.out⟩

theorem walk_ringed {w : World} {a : Option Addr} {len cap : Nat} (hr : Row w a len) (hl : len ≤ 9223372036854775807) : Calls Try.prog 3 #[.slice a len cap] w fun e w' => e = .returned (.bool true) ∧ Below w.heap.size w w' := by
  rcases Nat.lt_or_ge 1048576 len with h | h
  · exact ringed_big h hl
  · exact ringed_small hr h
end Go.Proofs.Ytlflpgikmfdloaa
