/- FnCombs: the law. -/
import Derived.Test.YtgcmlcbmolfjmaaFC
import Derived.Deep.Cut
namespace Go.Proofs.Ytgcmlcbmolfjmaa
open Go.RowKit

theorem dgather_x {w : World} {a : Option Addr} {len cap : Nat} (hr : Row w a len) (hl : len ≤ 1048576) :
    Calls Try.prog 5 #[.slice a len cap] w fun e w' => ∃ (u : Value) (k : Int), e = .returned (.tuple #[u, .int .i64 k]) ∧ Hid ((∃ n ys, n ≤ 513 ∧ Il w' u n ys) ∧ Below w.heap.size w w') := by
  have i1 := dcomb_x (cap := cap) hr hl
  clear hr
  go_enter Try.func5, Try.ntmps5
  go_wp2_with (first | (go_at_call 12; refine i1.mono ?_; rintro e w1 ⟨u, k, rfl, hq⟩))
  go_ret2
  exact ⟨_, _, rfl, hq⟩

/-- Gather of the program: what it tells, in one sentence. -/
theorem iG_any {W : World} {u : Value} {n : Nat} {k : Int} {ys : Nat → Int} (hu : Il W u n ys) (hn : n ≤ 513) : Calls Try.prog 6 #[u, .int .i64 k] W fun e w' => ∃ v N zs, e = .returned (.tuple #[v, .bool (decide (Sig n ys ∧ Bk k))]) ∧ Il w' v N zs ∧ Below W.heap.size W w' ∧ (Sig n ys ∧ Bk k → N = n ∧ zs = gat k.toNat ys) := by
  by_cases h : Sig n ys ∧ Bk k
  · obtain ⟨m, rfl⟩ : ∃ m : Nat, k = (m : Int) := ⟨k.toNat, by omega⟩
    rw [decide_eq_true h]
    refine (iGather_good hu h.1 (by omega) (by omega)).mono ?_
    rintro e w' ⟨v, rfl, h1, h2⟩
    exact ⟨v, _, _, rfl, il_of_own h1, h2, fun _ => ⟨rfl, rfl⟩⟩
  · rw [decide_eq_false h]
    refine (iGather_bad hu (by omega) h (fun _ => 0)).mono ?_
    rintro e w' ⟨v, rfl, h1, h2⟩
    exact ⟨v, _, _, rfl, il_of_own h1, h2, fun h' => absurd h' h⟩

theorem sG_any {W : World} {u : Value} {n : Nat} {k : Int} {ys : Nat → Int} (hu : Il W u n ys) (hn : n ≤ 513) : Calls Try.prog 7 #[u, .int .i64 k] W fun e w' => ∃ v, e = .returned (.tuple #[v, .bool (decide (Sig n ys ∧ Bk k))]) ∧ Below W.heap.size W w' := by
  by_cases h : Sig n ys ∧ Bk k
  · obtain ⟨m, rfl⟩ : ∃ m : Nat, k = (m : Int) := ⟨k.toNat, by omega⟩
    rw [decide_eq_true h]
    refine (sGather_good hu h.1 (by omega) (by omega)).mono ?_
    rintro e w' ⟨v, rfl, h1, h2⟩
    exact ⟨v, rfl, h2⟩
  · rw [decide_eq_false h]
    refine (sGather_bad hu (by omega) h (fun _ => 0)).mono ?_
    rintro e w' ⟨v, rfl, h1, h2⟩
    exact ⟨v, rfl, h2⟩

theorem iC_any {W : World} {u : Value} {n : Nat} {k : Int} {ys : Nat → Int} (hu : Il W u n ys) (hn : n ≤ 513) : Calls Try.prog 10 #[u, .int .i64 k] W fun e w' => ∃ v N zs, e = .returned (.tuple #[v, .bool (decide (Sig n ys ∧ Bk k))]) ∧ Il w' v N zs ∧ Below W.heap.size W w' ∧ (Sig n ys ∧ Bk k → N = n ∧ zs = cmb k.toNat ys) := by
  by_cases h : Sig n ys ∧ Bk k
  · obtain ⟨m, rfl⟩ : ∃ m : Nat, k = (m : Int) := ⟨k.toNat, by omega⟩
    rw [decide_eq_true h]
    refine (iComb_good hu h.1 (by omega) (by omega)).mono ?_
    rintro e w' ⟨v, rfl, h1, h2⟩
    exact ⟨v, _, _, rfl, il_of_own h1, h2, fun _ => ⟨rfl, rfl⟩⟩
  · rw [decide_eq_false h]
    refine (iComb_bad hu (by omega) h (fun _ => 0)).mono ?_
    rintro e w' ⟨v, rfl, h1, h2⟩
    exact ⟨v, _, _, rfl, il_of_own h1, h2, fun h' => absurd h' h⟩

instance grDec (n : Nat) (ys : Nat → Int) : Decidable (GR n ys) := inferInstance

theorem iR_any {W : World} {u : Value} {n : Nat} {ys : Nat → Int} (hu : Il W u n ys) (hn : n ≤ 513) : Calls Try.prog 8 #[u] W fun e w' => ∃ v N zs, e = .returned (.tuple #[v, .bool (decide (GR n ys))]) ∧ Il w' v N zs ∧ Below W.heap.size W w' ∧ N ≤ 513 ∧ (GR n ys → N = n ∧ zs = fun k => rsum ys (k + 1)) := by
  by_cases h : GR n ys
  · rw [decide_eq_true h]
    refine (iRamp_any hu (by omega) n (fun k => rsum ys (k + 1)) true (fun _ => ⟨rfl, rfl, rfl⟩) (fun h' => absurd h h')).mono ?_
    rintro e w' ⟨v, rfl, h1, h2⟩
    exact ⟨v, _, _, rfl, il_of_own h1, h2, hn, fun _ => ⟨rfl, rfl⟩⟩
  · rw [decide_eq_false h]
    refine (iRamp_any hu (by omega) 0 (fun _ => 0) false (fun h' => absurd h' h) (fun _ => ⟨rfl, rfl⟩)).mono ?_
    rintro e w' ⟨v, rfl, h1, h2⟩
    exact ⟨v, _, _, rfl, il_of_own h1, h2, by omega, fun h' => absurd h' h⟩

theorem sR_any {W : World} {u : Value} {n : Nat} {ys : Nat → Int} (hu : Il W u n ys) (hn : n ≤ 513) : Calls Try.prog 9 #[u] W fun e w' => ∃ v, e = .returned (.tuple #[v, .bool (decide (GR n ys))]) ∧ Below W.heap.size W w' := by
  by_cases h : GR n ys
  · rw [decide_eq_true h]
    refine (sRamp_any hu (by omega) n (fun k => rsum ys (k + 1)) true (fun _ => ⟨rfl, rfl, rfl⟩) (fun h' => absurd h h')).mono ?_
    rintro e w' ⟨v, rfl, h1, h2⟩
    exact ⟨v, rfl, h2⟩
  · rw [decide_eq_false h]
    refine (sRamp_any hu (by omega) 0 (fun _ => 0) false (fun h' => absurd h' h) (fun _ => ⟨rfl, rfl⟩)).mono ?_
    rintro e w' ⟨v, rfl, h1, h2⟩
    exact ⟨v, rfl, h2⟩

/-- The list that is typed out. -/
def lit2 (i : Nat) : Int := if i = 0 then 4 else 5

theorem lit2_il (w : World) : Il (w.alloc (.cells #[.int .i64 4, .int .i64 5] 3)) (.slice (some ⟨w.heap.size, 0, none⟩) 2 2) 2 lit2 := by
  refine ⟨_, _, rfl, Nat.le_refl _, fun _ => ⟨_, _, rfl, by simp, fun k hk => ?_⟩⟩
  match k, hk with
  | 0, _ => simp [lit2]
  | 1, _ => simp [lit2]

theorem lit2_sig : Sig 2 lit2 := ⟨by decide, fun k hk => by match k, hk with | 0, _ => decide | 1, _ => decide⟩

theorem lit2_gat : ∀ k, k < 2 → gat 1 lit2 k = lit2 k := fun k hk => by match k, hk with | 0, _ => decide | 1, _ => decide

theorem combs_big {w : World} {a : Option Addr} {len cap : Nat} (h : 1048576 < len) (hl : len ≤ 9223372036854775807) : Calls Try.prog 3 #[.slice a len cap] w fun e w' => e = .returned (.bool true) ∧ Below w.heap.size w w' := by
  have i1 := big_x (w := w) a len cap hl
  rw [decide_eq_true (by omega)] at i1
  go_enter Try.func3, Try.ntmps3
  go_wp2_with (first | (go_at_call 4; refine i1.mono ?_; rintro e w' ⟨rfl, hw⟩; obtain rfl := hw.symm))
  go_ret
  exact ⟨rfl, Below.refl _ _⟩

set_option maxHeartbeats 8000000 in
theorem combs_small {w : World} {a : Option Addr} {len cap : Nat} (hr : Row w a len) (h : len ≤ 1048576) : Calls Try.prog 3 #[.slice a len cap] w fun e w' => e = .returned (.bool true) ∧ Below w.heap.size w w' := by
  have i1 := big_x (w := w) a len cap (by omega)
  rw [decide_eq_false (by omega)] at i1
  have HD : Hid (Calls Try.prog 5 #[.slice a len cap] w fun e w' => ∃ (u : Value) (k : Int), e = .returned (.tuple #[u, .int .i64 k]) ∧ Hid ((∃ n ys, n ≤ 513 ∧ Il w' u n ys) ∧ Below w.heap.size w w')) := dgather_x hr h
  clear hr
  go_enter Try.func3, Try.ntmps3
  go_upto_region 16 with (first
    | (go_at_call 4; (with_reducible refine i1.mono ?_); rintro e w' ⟨rfl, hw⟩; obtain rfl := hw.symm)
    | (go_at_call 5; (with_reducible refine HD.out.mono ?_); rintro e w1 ⟨u, k, rfl, hq⟩; obtain ⟨⟨n, ys, hn, hil⟩, hb⟩ := hq.out; have U1 : Hid (Il w1 u n ys) := hil; have B1 : Hid (Below w.heap.size w w1) := hb; clear hil hb hq; obtain ⟨d1, hd1⟩ : ∃ d1, d1 = decide (Sig n ys ∧ Bk k) := ⟨_, rfl⟩; obtain ⟨d2, hd2⟩ : ∃ d2, d2 = decide (GR n ys) := ⟨_, rfl⟩; have D1 : Hid (d1 = decide (Sig n ys ∧ Bk k)) := hd1; have D2 : Hid (d2 = decide (GR n ys)) := hd2; clear hd1 hd2)
    | (go_at_call 6; (fail_if_success have := M1); have j := iG_any (k := k) U1.out hn; rw [← D1.out] at j; (with_reducible refine j.mono ?_); clear j; rintro e w2 ⟨gv, N1, z1, rfl, hg, hb, hz⟩; have M1 : Hid True := trivial; have G2 : Hid (Il w2 gv N1 z1) := hg; have B2 : Hid (Below w1.heap.size w1 w2) := hb; have Z1 : Hid (Sig n ys ∧ Bk k → N1 = n ∧ z1 = gat k.toNat ys) := hz; clear hg hb hz)
    | (go_at_call 7; have j := sG_any (k := k) (U1.out.below B2.out) hn; rw [← D1.out] at j; (with_reducible refine j.mono ?_); clear j; rintro e w3 ⟨tv, rfl, hb⟩; have B3 : Hid (Below w2.heap.size w2 w3) := hb; clear hb)
    | (go_at_call 8; have j := iR_any ((U1.out.below B2.out).below B3.out) hn; rw [← D2.out] at j; (with_reducible refine j.mono ?_); clear j; rintro e w4 ⟨rv, N2, z2, rfl, hg, hb, hN2, hz⟩; have R4 : Hid (Il w4 rv N2 z2) := hg; have B4 : Hid (Below w3.heap.size w3 w4) := hb; have Z2 : Hid (GR n ys → N2 = n ∧ z2 = fun k => rsum ys (k + 1)) := hz; clear hg hb hz)
    | (go_at_call 9; have j := sR_any (((U1.out.below B2.out).below B3.out).below B4.out) hn; rw [← D2.out] at j; (with_reducible refine j.mono ?_); clear j; rintro e w5 ⟨sv, rfl, hb⟩; have B5 : Hid (Below w4.heap.size w4 w5) := hb; clear hb)
    | (go_at_call 10; have j := iC_any (k := k) (R4.out.below B5.out) hN2; (with_reducible refine j.mono ?_); clear j; rintro e w6 ⟨xv, N3, z3, rfl, hg, hb, hz⟩; have X6 : Hid (Il w6 xv N3 z3) := hg; have B6 : Hid (Below w5.heap.size w5 w6) := hb; have Z3 : Hid (Sig N2 z2 ∧ Bk k → N3 = N2 ∧ z3 = cmb k.toNat z2) := hz; obtain ⟨d3, hd3⟩ : ∃ d3, d3 = decide (Sig N2 z2 ∧ Bk k) := ⟨_, rfl⟩; rw [← hd3]; have D3 : Hid (d3 = decide (Sig N2 z2 ∧ Bk k)) := hd3; clear hg hb hz hd3)
    | (go_at_call 6; have Z := M1; have j := iG_any (k := 1) (lit2_il w6) (by omega); rw [decide_eq_true ⟨lit2_sig, by decide⟩] at j; (with_reducible refine j.mono ?_); clear j; rintro e w7 ⟨lv, N4, z4, rfl, hg, hb, hz⟩; obtain ⟨rfl, rfl⟩ := hz ⟨lit2_sig, by decide⟩; have L7 : Hid (Il w7 lv 2 (gat 1 lit2)) := hg; have B7 : Hid (Below w6.heap.size w6 w7) := bstep (below_one _ _) hb; clear hg hb hz)
    | (go_at_call 11; (with_reducible refine (same_yes (L7.out.below (below_one _ _)) (lit2_il w7) (by omega) lit2_gat).mono ?_); rintro e w8 ⟨rfl, hb⟩; have B8 : Hid (Below w7.heap.size w7 w8) := bstep (below_one _ _) hb; clear hb))
  have BW : Hid (Below w.heap.size w w8) := bstep (bstep (bstep (bstep (bstep (bstep (bstep B1.out B2.out) B3.out) B4.out) B5.out) B6.out) B7.out) B8.out
  have X8 : Hid (Il w8 xv N3 z3) := (X6.out.below B7.out).below B8.out
  have G8 : Hid (Il w8 gv N1 z1) := (((((((G2.out.below B3.out).below B4.out).below B5.out).below B6.out).below B7.out).below B8.out))
  cases d1
  · clear D1 D2 D3 Z1 Z2 Z3 X8 G8 X6 G2 U1 R4
    go_wp2
    go_ret
    exact ⟨rfl, BW.out⟩
  · cases d2
    · clear D1 D2 D3 Z1 Z2 Z3 X8 G8 X6 G2 U1 R4
      go_wp2
      go_ret
      exact ⟨rfl, BW.out⟩
    · have e1 : Sig n ys ∧ Bk k := of_decide_eq_true D1.out.symm
      have e2 : GR n ys := of_decide_eq_true D2.out.symm
      obtain ⟨rfl, rfl⟩ := Z2.out e2
      have e3 : Sig N2 (fun k => rsum ys (k + 1)) ∧ Bk k := ⟨⟨e1.1.1, e2.2⟩, e1.2⟩
      obtain ⟨rfl, rfl⟩ := Z3.out e3
      obtain ⟨rfl, rfl⟩ := Z1.out e1
      have e4 : d3 = true := by rw [D3.out]; exact decide_eq_true e3
      subst e4
      have i9 := same_yes X8.out G8.out (by omega) (fun q _ => cmb_ramp k.toNat ys q)
      clear D1 D2 D3 Z1 Z2 Z3 X8 G8 X6 G2 U1 R4 e1 e2 e3
      go_wp2_with (first | (go_at_call 11; (with_reducible refine i9.mono ?_); rintro e w9 ⟨rfl, hb9⟩))
      go_ret
      exact ⟨rfl, bstep BW.out hb9⟩

theorem walk_combs {w : World} {a : Option Addr} {len cap : Nat} (hr : Row w a len) (hl : len ≤ 9223372036854775807) : Calls Try.prog 3 #[.slice a len cap] w fun e w' => e = .returned (.bool true) ∧ Below w.heap.size w w' := by
  rcases Nat.lt_or_ge 1048576 len with h | h
  · exact combs_big h hl
  · exact combs_small hr h
end Go.Proofs.Ytgcmlcbmolfjmaa
