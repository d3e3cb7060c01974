/- FnAdapted: the law. -/
import Derived.Test.YtbkkjbehmpmjeaaGB
import Derived.Test.YtbkkjbehmpmjeaaDE
import Derived.Deep.Cut
namespace Go.Proofs.Ytbkkjbehmpmjeaa
open Go.RowKit

set_option maxHeartbeats 1000000 in
theorem same_yes {w : World} {u v : Value} {n : Nat} {xs ys : Nat → Int} (hu : Il w u n xs) (hv : Il w v n ys) (hn : n ≤ 1048576) (he : ∀ k, k < n → xs k = ys k) : Calls Try.prog 8 #[u, v] w fun e w' => e = .returned (.bool true) ∧ Below w.heap.size w w' := by
  obtain ⟨ao, cap, rfl, hcap, hc⟩ := hu
  obtain ⟨ao2, cap2, rfl, hcap2, hc2⟩ := hv
  have HC : Hid (0 < n → ∃ b off, ao = some ⟨b, off, none⟩ ∧ b < w.heap.size ∧ ∀ k, k < n → w.cell? ⟨b, off + k, none⟩ = some (.int .i64 (xs k))) := hc
  have HC2 : Hid (0 < n → ∃ b off, ao2 = some ⟨b, off, none⟩ ∧ b < w.heap.size ∧ ∀ k, k < n → w.cell? ⟨b, off + k, none⟩ = some (.int .i64 (ys k))) := hc2
  have HE : Hid (∀ k, k < n → xs k = ys k) := he
  clear hc hc2 he
  go_enter Try.func8, Try.ntmps8
  go_wp2
  go_loopw [5] (fun i wr => ∃ k : Nat, i = .int .i64 k ∧ k ≤ n ∧ Hid (Below w.heap.size w wr)) (fun i _ => n - (intOf i).toNat)
  case atStart => exact ⟨0, rfl, by omega, Below.refl _ _⟩
  case round =>
    obtain ⟨k, rfl, hk, hrel⟩ := hrel
    by_cases h1 : k < n
    · obtain ⟨b, off, rfl, hlt, hcell⟩ := HC.out (by omega)
      obtain ⟨b2, off2, rfl, hlt2, hcell2⟩ := HC2.out (by omega)
      have c := (hrel.out.cell (p := ⟨b, off + k, none⟩) hlt).trans (hcell k h1)
      have c2 := (hrel.out.cell (p := ⟨b2, off2 + k, none⟩) hlt2).trans (hcell2 k h1)
      rw [← HE.out k h1] at c2
      clear hcell hcell2
      go_wp2_with (go_quiet (fail))
      go_roundw
      case rel => exact ⟨k + 1, by go_num, by omega, by first | exact hrel.out | exact below_drewN hrel.out _⟩
      case measure => simp [intOf]; omega
    · obtain rfl : k = n := by omega
      go_wp2
      go_ret
      exact ⟨rfl, hrel.out⟩

theorem dts_zero (z : Nat → Int) : ∀ n, dts (fun _ => 0) z n = 0
  | 0 => rfl
  | n + 1 => by unfold dts; rw [dts_zero z n]; simp

theorem msA_zero (n : Nat) (b : Int) (xs wt : Nat → Int) : msA n b xs wt 0 = wt 0 := by
  unfold msA mis
  show wt 0 - shd (dts (fun _ => 0) _ n) 14 = wt 0
  rw [dts_zero]
  show wt 0 - 0 / (2 : Int) ^ (14 : Int).toNat = wt 0
  simp

/-- What Adapt's answers keep to. -/
def Kept (t : Int) (m : Nat) (wt : Nat → Int) (ok : Bool) (N0 N1 : Nat) (z0 z1 : Nat → Int) : Prop := (ok = false → N0 = 0 ∧ N1 = 0) ∧ (ok = true → N0 = m ∧ (N1 : Int) = t ∧ Wth 1000000 N1 z1 ∧ z0 0 = wt 0) ∧ N1 ≤ 64

theorem iA_any {W : World} {u v : Value} {n m : Nat} {t b : Int} {xs wt : Nat → Int} (hu : Il W u n xs) (hv : Il W v m wt) (hn : n ≤ 65) (hm : m ≤ 65) : Calls Try.prog 6 #[.int .i64 t, .int .i64 b, u, v] W fun e w' => ∃ v0 v1 N0 N1 z0 z1, e = .returned (.tuple #[v0, v1, .bool (decide (GA t b n m xs wt))]) ∧ Il w' v0 N0 z0 ∧ Il w' v1 N1 z1 ∧ Below W.heap.size W w' ∧ Kept t m wt (decide (GA t b n m xs wt)) N0 N1 z0 z1 := by
  by_cases h : GA t b n m xs wt
  · rw [decide_eq_true h]
    obtain ⟨⟨ht, hb⟩, ⟨hx, hw⟩, rfl⟩ := h
    obtain ⟨k, rfl⟩ : ∃ k : Nat, t = (k : Int) := ⟨t.toNat, by omega⟩
    refine (iAdapt_good hu hv hx hw (by omega) (by omega) hb).mono ?_
    rintro e w' ⟨v0, v1, rfl, h1, h2, _, h4⟩
    exact ⟨v0, v1, _, _, _, _, rfl, il_of_own h1, il_of_own h2, h4, fun h => absurd h (by decide), fun _ => ⟨rfl, rfl, (stA_ok hx.2 n (Nat.le_refl _)).1, msA_zero _ _ _ _⟩, by omega⟩
  · rw [decide_eq_false h]
    refine (iAdapt_bad hu hv (by omega) (by omega) h (fun _ => 0) (fun _ => 0)).mono ?_
    rintro e w' ⟨v0, v1, rfl, h1, h2, _, h4⟩
    exact ⟨v0, v1, _, _, _, _, rfl, il_of_own h1, il_of_own h2, h4, fun _ => ⟨rfl, rfl⟩, fun h => absurd h (by decide), by omega⟩

theorem sA_any {W : World} {u v : Value} {n m : Nat} {t b : Int} {xs wt : Nat → Int} (hu : Il W u n xs) (hv : Il W v m wt) (hn : n ≤ 65) (hm : m ≤ 65) : Calls Try.prog 7 #[.int .i64 t, .int .i64 b, u, v] W fun e w' => ∃ v0 v1, e = .returned (.tuple #[v0, v1, .bool (decide (GA t b n m xs wt))]) ∧ Below W.heap.size W w' := by
  by_cases h : GA t b n m xs wt
  · rw [decide_eq_true h]
    obtain ⟨⟨ht, hb⟩, ⟨hx, hw⟩, rfl⟩ := h
    obtain ⟨k, rfl⟩ : ∃ k : Nat, t = (k : Int) := ⟨t.toNat, by omega⟩
    refine (sAdapt_good hu hv hx hw (by omega) (by omega) hb).mono ?_
    rintro e w' ⟨v0, v1, rfl, h1, h2, _, h4⟩
    exact ⟨v0, v1, rfl, h4⟩
  · rw [decide_eq_false h]
    refine (sAdapt_bad hu hv (by omega) (by omega) h (fun _ => 0) (fun _ => 0)).mono ?_
    rintro e w' ⟨v0, v1, rfl, h1, h2, _, h4⟩
    exact ⟨v0, v1, rfl, h4⟩

theorem lit_il (w : World) (x : Int) : Il (w.alloc (.cells #[.int .i64 x] 3)) (.slice (some ⟨w.heap.size, 0, none⟩) 1 1) 1 (fun _ => x) := by
  refine ⟨_, _, rfl, Nat.le_refl _, fun _ => ⟨_, _, rfl, by simp, fun k hk => ?_⟩⟩
  match k, hk with
  | 0, _ => simp

theorem lit_il2 (w : World) (x y : Int) : Il ((w.alloc (.cells #[.int .i64 x] 3)).alloc (.cells #[.int .i64 y] 3)) (.slice (some ⟨w.heap.size + 1, 0, none⟩) 1 1) 1 (fun _ => y) := by
  have h := lit_il (w.alloc (.cells #[.int .i64 x] 3)) y
  rw [show (w.alloc (.cells #[.int .i64 x] 3)).heap.size = w.heap.size + 1 by simp] at h
  exact h

theorem lit_ga : GA 1 0 1 1 (fun _ => 1) (fun _ => 5) := ⟨⟨by decide, by decide⟩, ⟨⟨by decide, fun k _ => by show -32767 ≤ (1 : Int) ∧ (1 : Int) ≤ 32767; decide⟩, ⟨by decide, fun k _ => by show -32767 ≤ (5 : Int) ∧ (5 : Int) ≤ 32767; decide⟩⟩, rfl⟩

/-- The small call. -/
theorem small_any {W : World} {u v : Value} (hu : Il W u 1 (fun _ => 1)) (hv : Il W v 1 (fun _ => 5)) : Calls Try.prog 6 #[.int .i64 1, .int .i64 0, u, v] W fun e w' => ∃ v0 v1, e = .returned (.tuple #[v0, v1, .bool true]) ∧ Il w' v0 1 (fun _ => 5) ∧ Il w' v1 1 (fun _ => 5) ∧ Below W.heap.size W w' := by
  refine (iAdapt_good (n := 1) hu hv lit_ga.2.1.1 lit_ga.2.1.2 (by omega) (by omega) (by omega)).mono ?_
  rintro e w' ⟨v0, v1, rfl, h1, h2, _, h4⟩
  have e1 : ∀ k, k < 1 → msA 1 0 (fun _ => 1) (fun _ => 5) k = 5 := fun k hk => by match k, hk with | 0, _ => exact msA_zero _ _ _ _
  have e2 : ∀ k, k < 1 → tpA 1 0 (fun _ => 1) (fun _ => 5) 1 k = 5 := fun k hk => by match k, hk with | 0, _ => decide
  rw [ils_congr e1] at h1
  rw [ils_congr e2] at h2
  exact ⟨v0, v1, rfl, il_of_own h1, il_of_own h2, h4⟩

theorem abs_any (x : Int) (hx : -1000000 ≤ x ∧ x ≤ 1000000) (w : World) : Calls Try.prog 9 #[.int .i64 x] w fun e w' => (∃ y : Int, e = .returned (.int .i64 y) ∧ y ≤ 1000000) ∧ w' = w := by
  by_cases h : x < 0
  · go_enter Try.func9, Try.ntmps9
    go_wp2
    go_ret
    exact ⟨⟨_, rfl, by omega⟩, rfl⟩
  · go_enter Try.func9, Try.ntmps9
    go_wp2
    go_ret
    exact ⟨⟨_, rfl, by omega⟩, rfl⟩

theorem adapted_big {w : World} {a : Option Addr} {len cap : Nat} (h : 1048576 < len) (hl : len ≤ 9223372036854775807) : Calls Try.prog 3 #[.slice a len cap] w fun e w' => e = .returned (.bool true) ∧ Below w.heap.size w w' := by
  have i1 := big_x (w := w) a len cap hl
  rw [decide_eq_true (by omega)] at i1
  go_enter Try.func3, Try.ntmps3
  go_wp2_with (first | (go_at_call 4; (with_reducible refine i1.mono ?_); rintro e w' ⟨rfl, hw⟩; obtain rfl := hw.symm))
  go_ret
  exact ⟨rfl, Below.refl _ _⟩

set_option maxRecDepth 20000 in
set_option maxHeartbeats 8000000 in
theorem adapted_small {w : World} {a : Option Addr} {len cap : Nat} (hr : Row w a len) (h : len ≤ 1048576) : Calls Try.prog 3 #[.slice a len cap] w fun e w' => e = .returned (.bool true) ∧ Below w.heap.size w w' := by
  have i1 := big_x (w := w) a len cap (by omega)
  rw [decide_eq_false (by omega)] at i1
  have HD : Hid (Calls Try.prog 5 #[.slice a len cap] w fun e w' => ∃ (t b : Int) (u v : Value), e = .returned (.tuple #[.int .i64 t, .int .i64 b, u, v]) ∧ Hid ((∃ n ys, n ≤ 65 ∧ Il w' u n ys) ∧ (∃ n ys, n ≤ 65 ∧ Il w' v n ys) ∧ Below w.heap.size w w')) := dadapt_x hr h
  clear hr
  go_enter Try.func3, Try.ntmps3
  go_upto_region 11 with (first
    | (go_at_call 4; (with_reducible refine i1.mono ?_); rintro e w' ⟨rfl, hw⟩; obtain rfl := hw.symm)
    | (go_at_call 5; (with_reducible refine HD.out.mono ?_); rintro e w1 ⟨t, b, u, v, rfl, hq⟩; obtain ⟨⟨n, xs, hn, hil⟩, ⟨m, wt, hm, hil2⟩, hb⟩ := hq.out; have U1 : Hid (Il w1 u n xs) := hil; have V1 : Hid (Il w1 v m wt) := hil2; have B1 : Hid (Below w.heap.size w w1) := hb; clear hil hil2 hb hq; obtain ⟨d1, hd1⟩ : ∃ d1, d1 = decide (GA t b n m xs wt) := ⟨_, rfl⟩; have D1 : Hid (d1 = decide (GA t b n m xs wt)) := hd1; clear hd1)
    | (go_at_call 6; (fail_if_success have := M1); have j := iA_any (t := t) (b := b) U1.out V1.out hn hm; rw [← D1.out] at j; (with_reducible refine j.mono ?_); clear j; rintro e w2 ⟨v0, v1, N0, N1, z0, z1, rfl, hg, hg2, hb, hz⟩; have M1 : Hid True := trivial; have E2 : Hid (Il w2 v0 N0 z0) := hg; have T2 : Hid (Il w2 v1 N1 z1) := hg2; have B2 : Hid (Below w1.heap.size w1 w2) := hb; have Z1 : Hid (Kept t m wt d1 N0 N1 z0 z1) := hz; clear hg hg2 hb hz)
    | (go_at_call 7; have j := sA_any (t := t) (b := b) (U1.out.below B2.out) (V1.out.below B2.out) hn hm; rw [← D1.out] at j; (with_reducible refine j.mono ?_); clear j; rintro e w3 ⟨s0, s1, rfl, hb⟩; have B3 : Hid (Below w2.heap.size w2 w3) := hb; clear hb)
    | (go_at_call 6; have Z := M1; have j := small_any ((lit_il w3 1).below (below_one _ (.cells #[.int .i64 5] 3))) (lit_il2 w3 1 5); (with_reducible refine j.mono ?_); clear j; rintro e w4 ⟨f0, f1, rfl, hg, hg2, hb⟩; have F4 : Hid (Il w4 f0 1 (fun _ => 5)) := hg; have O4 : Hid (Il w4 f1 1 (fun _ => 5)) := hg2; have B4 : Hid (Below w3.heap.size w3 w4) := bstep (bstep (below_one _ _) (below_one _ _)) hb; clear hg hg2 hb)
    | (go_at_call 8; (fail_if_success have := M8); (with_reducible refine (same_yes (F4.out.below (below_one _ _)) (lit_il w4 5) (by omega) (fun _ _ => rfl)).mono ?_); rintro e w5 ⟨rfl, hb⟩; have M8 : Hid True := trivial; have B5 : Hid (Below w4.heap.size w4 w5) := bstep (below_one _ _) hb; clear hb)
    | (go_at_call 8; have Z := M8; (with_reducible refine (same_yes ((O4.out.below B5.out).below (below_one _ _)) (lit_il w5 5) (by omega) (fun _ _ => rfl)).mono ?_); rintro e w6 ⟨rfl, hb⟩; have B6 : Hid (Below w5.heap.size w5 w6) := bstep (below_one _ _) hb; clear hb))
  have BW : Hid (Below w.heap.size w w6) := bstep (bstep (bstep (bstep (bstep B1.out B2.out) B3.out) B4.out) B5.out) B6.out
  have E6 : Hid (Il w6 v0 N0 z0) := ((((E2.out.below B3.out).below B4.out).below B5.out).below B6.out)
  have T6 : Hid (Il w6 v1 N1 z1) := ((((T2.out.below B3.out).below B4.out).below B5.out).below B6.out)
  have V6 : Hid (Il w6 v m wt) := (((((V1.out.below B2.out).below B3.out).below B4.out).below B5.out).below B6.out)
  clear E2 T2 U1 V1 B1 B2 B3 B4 B5 B6 F4 O4 D1 HD i1
  obtain ⟨ao0, cp0, h0, hcp0, hc0⟩ := E6.out
  obtain ⟨ao1, cp1, h1', hcp1, hc1⟩ := T6.out
  obtain ⟨ao2, cp2, h2', hcp2, hc2⟩ := V6.out
  subst h0 h1' h2'
  have HC0 : Hid (0 < N0 → ∃ b off, ao0 = some ⟨b, off, none⟩ ∧ b < w6.heap.size ∧ ∀ k, k < N0 → w6.cell? ⟨b, off + k, none⟩ = some (.int .i64 (z0 k))) := hc0
  have HC1 : Hid (0 < N1 → ∃ b off, ao1 = some ⟨b, off, none⟩ ∧ b < w6.heap.size ∧ ∀ k, k < N1 → w6.cell? ⟨b, off + k, none⟩ = some (.int .i64 (z1 k))) := hc1
  have HC2 : Hid (0 < m → ∃ b off, ao2 = some ⟨b, off, none⟩ ∧ b < w6.heap.size ∧ ∀ k, k < m → w6.cell? ⟨b, off + k, none⟩ = some (.int .i64 (wt k))) := hc2
  clear hc0 hc1 hc2 E6 T6 V6
  cases d1
  · obtain ⟨rfl, rfl⟩ := Z1.out.1 rfl
    clear Z1
    go_wp2
    go_ret
    exact ⟨rfl, BW.out⟩
  · obtain ⟨rfl, e1, hz1, hz0⟩ := Z1.out.2.1 rfl
    have hN1 := Z1.out.2.2
    have HZ : Hid (Wth 1000000 N1 z1) := hz1
    have HZ0 : Hid (z0 0 = wt 0) := hz0
    subst e1
    clear Z1 hz1 hz0
    go_wp2
    go_loopw [16] (fun i wr => ∃ k : Nat, i = .int .i64 k ∧ k ≤ N1 ∧ wr = w6) (fun i _ => N1 - (intOf i).toNat)
    case atStart => exact ⟨0, rfl, by omega, rfl⟩
    case round =>
      obtain ⟨k, rfl, hk, rfl⟩ := hrel
      by_cases h1 : k < N1
      · obtain ⟨b1, off1, rfl, hlt, hcell⟩ := HC1.out (by omega)
        have c1 := hcell k h1
        clear hcell
        have i9 := abs_any (z1 k) (HZ.out k h1)
        go_wp2_with (first | (go_at_call 9; (with_reducible refine (i9 _).mono ?_); rintro e w' ⟨⟨y, rfl, hy⟩, hw⟩; obtain rfl := hw.symm))
        go_roundw
        case rel => exact ⟨k + 1, by go_num, by omega, by trivial⟩
        case measure => simp [intOf]; omega
      · obtain rfl : k = N1 := by omega
        by_cases h0 : 0 < N0
        · obtain ⟨b0, off0, rfl, hlt0, hcell0⟩ := HC0.out h0
          obtain ⟨b2, off2, rfl, hlt2, hcell2⟩ := HC2.out h0
          have c0 := hcell0 0 h0
          have c2 := hcell2 0 h0
          rw [Nat.add_zero] at c0 c2
          rw [← HZ0.out] at c2
          clear hcell0 hcell2 HC0 HC2 HC1
          have n0 : ¬ ((N0 : Int) = 0) := by omega
          have n0b : ((N0 : Int) == 0) = false := beq_eq_false_iff_ne.2 n0
          have n0i : (0 : Int) < (N0 : Int) := by omega
          go_wp2_with (go_quiet (fail))
          go_ret
          exact ⟨rfl, below_drewN BW.out _⟩
        · obtain rfl : N0 = 0 := by omega
          clear HC0 HC2 HC1
          go_wp2_with (go_quiet (fail))
          go_ret
          exact ⟨rfl, below_drewN BW.out _⟩

theorem walk_adapted {w : World} {a : Option Addr} {len cap : Nat} (hr : Row w a len) (hl : len ≤ 9223372036854775807) : Calls Try.prog 3 #[.slice a len cap] w fun e w' => e = .returned (.bool true) ∧ Below w.heap.size w w' := by
  rcases Nat.lt_or_ge 1048576 len with h | h
  · exact adapted_big h hl
  · exact adapted_small hr h
end Go.Proofs.Ytbkkjbehmpmjeaa
