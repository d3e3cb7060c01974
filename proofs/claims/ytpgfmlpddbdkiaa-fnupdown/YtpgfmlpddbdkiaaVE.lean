/- FnUpDown: the law. -/
import Derived.Test.YtpgfmlpddbdkiaaVD
import Derived.Deep.Cut
namespace Go.Proofs.Ytpgfmlpddbdkiaa
open Go.RowKit

theorem updown_big {w : World} {a : Option Addr} {len cap : Nat} (h : 1048576 < len) (hl : len ≤ 9223372036854775807) : Calls Try.prog 3 #[.slice a len cap] w fun e w' => e = .returned (.bool true) ∧ Below w.heap.size w w' := by
  have i1 := big_x (w := w) a len cap hl
  rw [decide_eq_true (by omega)] at i1
  go_enter Try.func3, Try.ntmps3
  go_wp2_with (first | (go_at_call 4; refine i1.mono ?_; rintro e w' ⟨rfl, hw⟩; obtain rfl := hw.symm))
  go_ret
  exact ⟨rfl, Below.refl _ _⟩

set_option maxHeartbeats 8000000 in
theorem updown_small {w : World} {a : Option Addr} {len cap : Nat} (hr : Row w a len) (h : len ≤ 1048576) : Calls Try.prog 3 #[.slice a len cap] w fun e w' => e = .returned (.bool true) ∧ Below w.heap.size w w' := by
  have i1 := big_x (w := w) a len cap (by omega)
  rw [decide_eq_false (by omega)] at i1
  have HD : Hid (Calls Try.prog 5 #[.slice a len cap] w fun e w' => ∃ (u : Value) (k : Int), e = .returned (.tuple #[u, .int .i64 k]) ∧ Hid ((∃ n ys, n ≤ 513 ∧ Il w' u n ys) ∧ Below w.heap.size w w')) := dup_x hr h
  clear hr
  go_enter Try.func3, Try.ntmps3
  go_upto_region 11 with (first
    | (go_at_call 4; (with_reducible refine i1.mono ?_); rintro e w' ⟨rfl, hw⟩; obtain rfl := hw.symm)
    | (go_at_call 5; (with_reducible refine HD.out.mono ?_); rintro e w1 ⟨u, k, rfl, hq⟩; obtain ⟨⟨n, ys, hn, hil⟩, hb⟩ := hq.out; have U1 : Hid (Il w1 u n ys) := hil; have B1 : Hid (Below w.heap.size w w1) := hb; clear hil hb hq; obtain ⟨d1, hd1⟩ : ∃ d1, d1 = decide (GUp n ys k) := ⟨_, rfl⟩; have D1 : Hid (d1 = decide (GUp n ys k)) := hd1; clear hd1)
    | (go_at_call 6; (fail_if_success have := M1); have j := iU_any (k := k) U1.out hn; rw [← D1.out] at j; (with_reducible refine j.mono ?_); clear j; rintro e w2 ⟨gv, N1, z1, rfl, hg, hb, hz, hz2⟩; have M1 : Hid True := trivial; have G2 : Hid (Il w2 gv N1 z1) := hg; have B2 : Hid (Below w1.heap.size w1 w2) := hb; have Z1 : Hid ((GUp n ys k → ∃ m : Nat, k = m ∧ N1 = n * m ∧ z1 = upF m ys) ∧ (¬ GUp n ys k → N1 = 0)) := ⟨hz, hz2⟩; obtain ⟨go, gc, rfl, _, hcg⟩ := hg; clear hb hz hz2 hcg)
    | (go_at_call 7; have j := sU_any (k := k) (U1.out.below B2.out) hn; rw [← D1.out] at j; (with_reducible refine j.mono ?_); clear j; rintro e w3 ⟨tv, rfl, hb⟩; have B3 : Hid (Below w2.heap.size w2 w3) := hb; clear hb)
    | (go_at_call 6; have Z := M1; have j := up_lit w3; (with_reducible refine j.mono ?_); clear j; rintro e w7 ⟨lv, rfl, hg, hb⟩; have L7 : Hid (Il w7 lv 2 (upF 2 lit3)) := il_of_own hg; have B7 : Hid (Below w3.heap.size w3 w7) := bstep (below_one _ _) hb; clear hg hb)
    | (go_at_call 8; (with_reducible refine (same_yes (L7.out.below (below_one _ _)) (lit30_il w7) (by omega) lit3_up).mono ?_); rintro e w8 ⟨rfl, hb⟩; have B8 : Hid (Below w7.heap.size w7 w8) := bstep (below_one _ _) hb; clear hb))
  have BW : Hid (Below w.heap.size w w8) := bstep (bstep (bstep (bstep B1.out B2.out) B3.out) B7.out) B8.out
  have G8 : Hid (Il w8 (.slice go N1 gc) N1 z1) := ((G2.out.below B3.out).below B7.out).below B8.out
  have U8 : Hid (Il w8 u n ys) := (((U1.out.below B2.out).below B3.out).below B7.out).below B8.out
  clear B1 B2 B3 B7 B8 G2 U1 L7 HD i1
  cases d1
  · obtain rfl := Z1.out.2 (of_decide_eq_false D1.out.symm)
    clear D1 Z1 G8 U8
    go_wp2
    go_ret
    exact ⟨rfl, BW.out⟩
  · have e1 : GUp n ys k := of_decide_eq_true D1.out.symm
    obtain ⟨m, rfl, hN1, rfl⟩ := Z1.out.1 e1
    have hm := e1.2.1
    have hM : N1 ≤ 512 := by have := e1.2.2; rw [show (n : Int) * (m : Int) = ((n * m : Nat) : Int) from (Int.natCast_mul n m).symm, ← hN1] at this; omega
    have hsg := upF_sig e1.1 (show 0 < m by omega) (hN1 ▸ hM)
    have q1 := down_up (n := n) ys (show 0 < m by omega)
    rw [← hN1] at hsg q1
    have i2 := dn_first G8.out hsg hm
    rw [q1.1] at i2
    have Q1 : Hid (∀ j, thF m 0 (upF m ys) j = ys j) := q1.2
    have HSG : Hid (Sig N1 (upF m ys)) := hsg
    have NN : Hid (N1 = n * m) := hN1
    clear D1 Z1 e1 q1 hsg hN1
    obtain ⟨N3, hN3⟩ : ∃ N3 : Nat, N3 = dN N1 m (m - 1) := ⟨_, rfl⟩
    have NZ : Hid (N3 = dN N1 m (m - 1) ∧ N3 ≤ N1) := ⟨hN3, by rw [hN3]; exact dN_le _ _ _ (by omega)⟩
    clear hN3
    have hN3 : N3 ≤ 512 := Nat.le_trans NZ.out.2 hM
    go_upto_region 15 with (first
      | (go_at_call 9; (fail_if_success have := M2); (with_reducible refine i2.mono ?_); rintro e w9 ⟨dv, rfl, ho, hb⟩; have M2 : Hid True := trivial; have D9 : Hid (Il w9 dv n (thF m 0 (upF m ys)) ∧ Below w8.heap.size w8 w9) := ⟨il_of_own ho, hb⟩; clear ho hb)
      | (go_at_call 9; have Z := M2; have j := dn_last (G8.out.below D9.out.2) HSG.out hm; rw [← NZ.out.1] at j; (with_reducible refine j.mono ?_); clear j; rintro e w10 ⟨zv, rfl, ho, hb⟩; have D10 : Hid (Il w10 zv N3 (thF m (m - 1) (upF m ys)) ∧ Below w9.heap.size w9 w10) := ⟨il_of_own ho, hb⟩; obtain ⟨zo, zc, rfl, hzc, hcz⟩ := il_of_own ho; clear ho hb hcz))
    have B10 : Hid (Below w.heap.size w w10) := bstep (bstep BW.out D9.out.2) D10.out.2
    have i3 := same_yes (D9.out.1.below D10.out.2) ((U8.out.below D9.out.2).below D10.out.2) (by omega) (fun j _ => Q1.out j)
    by_cases hm1 : 1 < m
    · have HZ : Hid (0 < N3 → ∃ b off, zo = some ⟨b, off, none⟩ ∧ b < w10.heap.size ∧ ∀ k, k < N3 → w10.cell? ⟨b, off + k, none⟩ = some (.int .i64 0)) := by
        obtain ⟨ao, c, e, _, hh⟩ := D10.out.1
        injection e with e1 e2 e3
        subst e1
        intro h0
        obtain ⟨b, off, x1, x2, x3⟩ := hh h0
        refine ⟨b, off, x1, x2, fun k hk => ?_⟩
        rw [x3 k hk, (down_last (n := n) ys hm1).2 k]
      clear D9 D10 G8 U8 HSG Q1 BW
      go_wp2
      go_loopw [15] (fun i wr => ∃ k : Nat, i = .int .i64 k ∧ k ≤ N3 ∧ wr = w10) (fun i _ => N3 - (intOf i).toNat)
      case atStart => exact ⟨0, rfl, by omega, rfl⟩
      case round =>
        obtain ⟨k, rfl, hk, rfl⟩ := hrel
        by_cases h1 : k < N3
        · obtain ⟨b, off, rfl, hlt, hcell⟩ := HZ.out (by omega)
          have c := hcell k h1
          clear hcell
          go_wp2
          go_roundw
          case rel => exact ⟨k + 1, by go_num, by omega, by trivial⟩
          case measure => simp [intOf]; omega
        · obtain rfl : N3 = k := by omega
          go_wp2_with (first | (go_at_call 8; (with_reducible refine i3.mono ?_); rintro e w11 ⟨rfl, hb⟩))
          go_ret
          exact ⟨rfl, bstep B10.out hb⟩
    · clear D9 D10 G8 U8 HSG Q1 BW
      obtain rfl : m = 1 := by omega
      go_wp2
      go_loopw [15] (fun i wr => i = .int .i64 0 ∧ wr = w10) (fun _ _ => 0)
      case atStart => exact ⟨rfl, rfl⟩
      case round =>
        obtain ⟨rfl, rfl⟩ := hrel
        by_cases h1 : 0 < N3
        · go_wp2_with (first | (go_at_call 8; (with_reducible refine i3.mono ?_); rintro e w11 ⟨rfl, hb⟩))
          go_ret
          exact ⟨rfl, bstep B10.out hb⟩
        · go_wp2_with (first | (go_at_call 8; (with_reducible refine i3.mono ?_); rintro e w11 ⟨rfl, hb⟩))
          go_ret
          exact ⟨rfl, bstep B10.out hb⟩

theorem walk_updown {w : World} {a : Option Addr} {len cap : Nat} (hr : Row w a len) (hl : len ≤ 9223372036854775807) : Calls Try.prog 3 #[.slice a len cap] w fun e w' => e = .returned (.bool true) ∧ Below w.heap.size w w' := by
  rcases Nat.lt_or_ge 1048576 len with h | h
  · exact updown_big h hl
  · exact updown_small hr h
end Go.Proofs.Ytpgfmlpddbdkiaa
