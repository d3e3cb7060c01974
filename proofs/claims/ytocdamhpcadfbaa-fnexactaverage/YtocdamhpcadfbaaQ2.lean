/- Powers. -/
import Derived.Test.YtocdamhpcadfbaaQ1
namespace Go.Proofs.Ytocdamhpcadfbaa
open Go.RowKit

/-- What is told: a list of floats in memory of the call's own, each as C says (all NaNs being one). -/
def Pf (w w' : World) (e : Ending) (N : Nat) (C : Nat → Option Nat) : Prop := ∃ u zs, e = .returned u ∧ w'.ownsRow w.heap.size 42 1 u N (fls zs N) ∧ (∀ k, k < N → cn (zs k) = C k) ∧ Below w.heap.size w w'

set_option maxRecDepth 20000 in
set_option maxHeartbeats 2000000 in
theorem sPowers_good {w : World} {v : Value} {n : Nat} {xs ys : Nat → Nat} (hv : Fp w v n xs ys) (hn : n ≤ 128) : Calls Try.prog 6 #[v] w fun e w' => Pf w w' e n (fun k => cpw (cn (xs k)) (cn (ys k))) := by
  obtain ⟨i0, hi, hz0, hz1, hz2⟩ := info_parts Try.info42
  obtain ⟨ao, cap, rfl, hcap, hc⟩ := hv
  have HC : Hid (0 < n → ∃ b off, ao = some ⟨b, off, none⟩ ∧ b < w.heap.size ∧ ∀ k, k < n → w.cell? ⟨b, off + k * 2, none⟩ = some (.float .f64 (xs k)) ∧ w.cell? ⟨b, off + k * 2 + 1, none⟩ = some (.float .f64 (ys k))) := hc
  clear hc
  go_enter Try.func6, Try.ntmps6
  go_wp2
  go_loopw [3, 4] (fun o i wr => ∃ k : Nat, i = .int .i64 k ∧ k ≤ n ∧ Hid (∃ zs, wr.ownsRow w.heap.size 42 1 o k (fls zs k) ∧ (∀ j, j < k → cn (zs j) = cpw (cn (xs j)) (cn (ys j))) ∧ Below w.heap.size w wr)) (fun _ i _ => n - (intOf i).toNat)
  case atStart => exact ⟨0, rfl, by omega, fun _ => 0, own_empty w 42 1, fun j hj => by omega, below_one _ _⟩
  case round =>
    obtain ⟨k, rfl, hk, hrel⟩ := hrel
    obtain ⟨zs, hown, hzs, hbl⟩ := hrel.out
    by_cases h1 : k < n
    · obtain ⟨b, off, rfl, hlt, hcell⟩ := HC.out (by omega)
      have c : wr.cell? ⟨b, off + k * 2, none⟩ = some (.float .f64 (xs k)) := (hbl.cell (p := ⟨b, off + k * 2, none⟩) hlt).trans (hcell k h1).1
      have c' : wr.cell? ⟨b, off + k * 2 + 1, none⟩ = some (.float .f64 (ys k)) := (hbl.cell (p := ⟨b, off + k * 2 + 1, none⟩) hlt).trans (hcell k h1).2
      have i1 := fun W => sPow_any (xs k) (ys k) W
      have HO : Hid (wr.ownsRow w.heap.size 42 1 _ k (fls zs k)) := hown
      have HZ : Hid (∀ j, j < k → cn (zs j) = cpw (cn (xs j)) (cn (ys j))) := hzs
      have HB : Hid (Below w.heap.size w wr) := hbl
      clear hcell hrel hown hzs hbl hlt
      go_wp2_with (first | (go_at_call 20; refine (i1 _).mono ?_; rintro e w1 ⟨x, rfl, ex, hb1⟩; have EX : Hid (cn x = cpw (cn (xs k)) (cn (ys k))) := ex; have hb3 := below_one w1 (.cells #[.float .f64 x] 42); have HO3 := own_below (own_below HO.out hb1) hb3; have HB3 := bstep (bstep HB.out hb1) hb3; clear hb3 hb1 ex) | (at_builtin; refine wpList_append_own _ rfl _ _ 24 rfl w.heap.size 42 i0 (.float .f64 0) 1 8 Try.underlying24 hi hz0 hz1 hz2 rfl (by decide) _ _ _ rfl HO3 ⟨w1.heap.size, 0, none⟩ 1 1 [.float .f64 x] rfl rfl (one_new _ _ _) (by simp [Value.oneCell']) (by unfold maxLen; omega) (by omega) HB3.size ?_))
      intro v' w4 hown' hgrow _
      have HB4 : Hid (Below w.heap.size w w4) := grown_below HB3 (Nat.le_refl _) HO3 hgrow
      rw [fls_app] at hown'
      have HO4 : Hid _ := hown'
      clear hown' hgrow HB3 HO3
      go_wp2
      go_roundw
      case rel =>
        refine ⟨k + 1, by go_num, by omega, _, HO4.out, fun j hj => ?_, HB4.out⟩
        by_cases hjk : j = k
        · subst hjk
          rw [if_pos rfl]
          exact EX.out
        · rw [if_neg hjk]
          exact HZ.out j (by omega)
      case measure => simp [intOf]; omega
    · obtain rfl : k = n := by omega
      have HO : Hid (wr.ownsRow w.heap.size 42 1 _ k (fls zs k)) := hown
      have HZ : Hid (∀ j, j < k → cn (zs j) = cpw (cn (xs j)) (cn (ys j))) := hzs
      have HB : Hid (Below w.heap.size w wr) := hbl
      clear hrel hown hzs hbl
      go_wp2
      go_ret
      exact ⟨_, zs, rfl, HO.out, HZ.out, HB.out⟩

set_option maxHeartbeats 1000000 in
theorem sPowers_bad {w : World} {v : Value} {n : Nat} {xs ys : Nat → Nat} (hv : Fp w v n xs ys) (hn : ¬ n ≤ 128) (hm : n ≤ 1048576) : Calls Try.prog 6 #[v] w fun e w' => ∀ C, Pf w w' e 0 C := by
  refine Calls.mono (R := fun e w' => Pf w w' e 0 (fun _ => none)) ?_ (fun e w' ⟨u, zs, h1, h2, _, h4⟩ C => ⟨u, zs, h1, h2, fun k hk => by omega, h4⟩)
  obtain ⟨ao, cap, rfl, hcap, hc⟩ := hv
  clear hc
  have O0 : Hid ((w.alloc (.cells #[] 42)).ownsRow w.heap.size 42 1 (.slice (some ⟨w.heap.size, 0, none⟩) 0 0) 0 []) := own_empty w 42 1
  go_enter Try.func6, Try.ntmps6
  go_wp2
  go_loopw [3, 4] (fun o i wr => o = .slice (some ⟨w.heap.size, 0, none⟩) 0 0 ∧ i = .int .i64 0 ∧ wr = w.alloc (.cells #[] 42)) (fun _ _ _ => 0)
  case atStart => exact ⟨rfl, rfl, rfl⟩
  case round =>
    obtain ⟨rfl, rfl, rfl⟩ := hrel
    go_wp2
    go_ret
    exact ⟨_, fun _ => 0, rfl, O0.out, fun k hk => by omega, below_one _ _⟩

set_option maxRecDepth 20000 in
set_option maxHeartbeats 2000000 in
theorem iPowers_good {w : World} {v : Value} {n : Nat} {xs ys : Nat → Nat} (hv : Fp w v n xs ys) (hn : n ≤ 128) : Calls Try.prog 8 #[v] w fun e w' => Pf w w' e n (fun k => cpw (cn (xs k)) (cn (ys k))) := by
  obtain ⟨i0, hi, hz0, hz1, hz2⟩ := info_parts Try.info42
  obtain ⟨ao, cap, rfl, hcap, hc⟩ := hv
  have HC : Hid (0 < n → ∃ b off, ao = some ⟨b, off, none⟩ ∧ b < w.heap.size ∧ ∀ k, k < n → w.cell? ⟨b, off + k * 2, none⟩ = some (.float .f64 (xs k)) ∧ w.cell? ⟨b, off + k * 2 + 1, none⟩ = some (.float .f64 (ys k))) := hc
  clear hc
  obtain ⟨w1, hm, hrow, hgr⟩ := run_makeSlice_full (P := Try.prog) w w.heap.size 24 42 i0 (.float .f64 0) 1 Try.underlying24 hi hz0 hz1 .i64 .i64 n (by omega) (by rw [hz2]; omega) (by unfold maxLen; omega) (Nat.le_refl _)
  have hbl : Below w.heap.size w w1 := (Below.refl _ _).grown hgr (Nat.le_refl _) (fun _ h => by cases h)
  rw [made_fls] at hrow
  have HR : Hid (w1.ownsRow w.heap.size 42 1 (.slice (some ⟨w.heap.size, 0, none⟩) n n) n (fls (fun _ => 0) n)) := hrow
  have HB : Hid (Below w.heap.size w w1) := hbl
  clear hrow hbl hgr hi hz0 hz1 hz2
  have hST := rStore
  go_enter Try.func8, Try.ntmps8
  go_wp2
  go_loopw [4, 5, 15] (fun _ _ i wr => ∃ k : Nat, i = .int .i64 k ∧ k ≤ n ∧ Hid (∃ zs, wr.ownsRow w.heap.size 42 1 (.slice (some ⟨w.heap.size, 0, none⟩) n n) n (fls zs n) ∧ (∀ j, j < k → cn (zs j) = cpw (cn (xs j)) (cn (ys j))) ∧ Below w.heap.size w wr)) (fun _ _ i _ => n - (intOf i).toNat)
  case atStart => exact ⟨0, rfl, by omega, fun _ => 0, HR.out, fun j hj => by omega, HB.out⟩
  case round =>
    obtain ⟨k, rfl, hk, hrel⟩ := hrel
    obtain ⟨zs, hown, hzs, hbl⟩ := hrel.out
    by_cases h1 : k < n
    · obtain ⟨b, off, rfl, hlt, hcell⟩ := HC.out (by omega)
      have c : wr.cell? ⟨b, off + k * 2, none⟩ = some (.float .f64 (xs k)) := (hbl.cell (p := ⟨b, off + k * 2, none⟩) hlt).trans (hcell k h1).1
      have c' : wr.cell? ⟨b, off + k * 2 + 1, none⟩ = some (.float .f64 (ys k)) := (hbl.cell (p := ⟨b, off + k * 2 + 1, none⟩) hlt).trans (hcell k h1).2
      have i1 := fun W => iPow_any (xs k) (ys k) W
      have HO : Hid (wr.ownsRow w.heap.size 42 1 (.slice (some ⟨w.heap.size, 0, none⟩) n n) n (fls zs n)) := hown
      have HZ : Hid (∀ j, j < k → cn (zs j) = cpw (cn (xs j)) (cn (ys j))) := hzs
      have HB : Hid (Below w.heap.size w wr) := hbl
      have hbx := below_one wr (.cells #[.float .f64 (xs k), .float .f64 (ys k)] 45)
      clear hcell hrel hown hzs hbl hlt
      go_wp2_with (first | (go_at_call 22; refine (i1 _).mono ?_; rintro e w3 ⟨x, rfl, ex, hb3⟩; have EX : Hid (cn x = cpw (cn (xs k)) (cn (ys k))) := ex; have hbt := bstep hbx hb3; have O4 := own_below HO.out hbt; have B4 : Hid (Below w.heap.size w w3) := bstep HB.out hbt; have hfz := O4.frozenAt k; have hst := (O4.stored k (.float .f64 x)).1; have hce := O4.cellAt k (by omega); rw [fls_get h1] at hce; rw [fls_put] at hst; have HS : Hid _ := hst; clear hst O4 hbt hb3 ex))
      go_roundw
      case rel =>
        refine ⟨k + 1, by go_num, by omega, _, HS.out, fun j hj => ?_, B4.out.setCell (Nat.le_refl _) _⟩
        by_cases hjk : j = k
        · subst hjk
          rw [if_pos rfl]
          exact EX.out
        · rw [if_neg hjk]
          exact HZ.out j (by omega)
      case measure => simp [intOf]; omega
    · obtain rfl : n = k := by omega
      have HO : Hid (wr.ownsRow w.heap.size 42 1 (.slice (some ⟨w.heap.size, 0, none⟩) n n) n (fls zs n)) := hown
      have HZ : Hid (∀ j, j < n → cn (zs j) = cpw (cn (xs j)) (cn (ys j))) := hzs
      have HB : Hid (Below w.heap.size w wr) := hbl
      clear hrel hown hzs hbl
      go_wp2
      go_ret
      exact ⟨_, zs, rfl, HO.out, HZ.out, HB.out⟩

set_option maxHeartbeats 1000000 in
theorem iPowers_bad {w : World} {v : Value} {n : Nat} {xs ys : Nat → Nat} (hv : Fp w v n xs ys) (hn : ¬ n ≤ 128) (hm : n ≤ 1048576) : Calls Try.prog 8 #[v] w fun e w' => ∀ C, Pf w w' e 0 C := by
  refine Calls.mono (R := fun e w' => Pf w w' e 0 (fun _ => none)) ?_ (fun e w' ⟨u, zs, h1, h2, _, h4⟩ C => ⟨u, zs, h1, h2, fun k hk => by omega, h4⟩)
  obtain ⟨ao, cap, rfl, hcap, hc⟩ := hv
  clear hc
  go_enter Try.func8, Try.ntmps8
  go_wp2
  go_ret
  exact ⟨_, fun _ => 0, rfl, own_empty w 42 1, fun k hk => by omega, below_one _ _⟩

theorem sz_any {w : World} {v : Value} {n : Nat} {xs ys : Nat → Nat} (hv : Fp w v n xs ys) (hn : n ≤ 9223372036854775807) : Calls Try.prog 5 #[v, .int .i64 1048576] w fun e w' => (∃ x : Int, e = .returned (.int .i64 x) ∧ (x < 0 ↔ ¬ n ≤ 1048576)) ∧ w' = w := by
  obtain ⟨ao, cap, rfl, hcap, hc⟩ := hv
  clear hc
  by_cases h : n ≤ 1048576
  · go_enter Try.func5, Try.ntmps5
    go_wp2
    go_ret
    exact ⟨⟨_, rfl, by omega⟩, rfl⟩
  · go_enter Try.func5, Try.ntmps5
    go_wp2
    go_ret
    exact ⟨⟨_, rfl, by omega⟩, rfl⟩

theorem ownF_only' {w w' w3 : World} {B3 s s2 n m g : Nat} {e e2 : TypeId} {v x : Value} {xs L : List Value} (h : w.ownsRow w3.heap.size e s v n xs) (ho : Only g w w') (hor : x.ownBlock = some g ∨ w' = w) (hx : w3.ownsRow B3 e2 s2 x m L) : w'.ownsRow w3.heap.size e s v n xs := by
  rcases hor with hg | rfl
  · exact own_only h ho (World.ownsRow.lt hx g hg).2
  · exact h

set_option maxHeartbeats 4000000 in
theorem powers_of {w : World} {v : Value} {n : Nat} {xs ys : Nat → Nat} (hv : Fp w v n xs ys) (hn : n ≤ 9223372036854775807) (N : Nat) (hN : N ≤ 1048576) (C : Nat → Option Nat)
    (hs : n ≤ 1048576 → ∀ W u, Fp W u n xs ys → Calls Try.prog 6 #[u] W fun e w' => Pf W w' e N C)
    (hi : n ≤ 1048576 → ∀ W u, Fp W u n xs ys → Calls Try.prog 8 #[u] W fun e w' => Pf W w' e N C) :
    Calls Try.prog 3 #[v] w fun e w' => e = .returned (.bool true) ∧ Below w.heap.size w w' := by
  have hz := sz_any hv hn
  by_cases h : n ≤ 1048576
  · have FV : Hid (Fp w v n xs ys) := hv
    have HS : Hid (∀ W u, Fp W u n xs ys → Calls Try.prog 6 #[u] W fun e w' => Pf W w' e N C) := hs h
    have HI : Hid (∀ W u, Fp W u n xs ys → Calls Try.prog 8 #[u] W fun e w' => Pf W w' e N C) := hi h
    obtain ⟨ao, cap, rfl, hcap, hc⟩ := hv
    clear hc hs hi
    go_enter Try.func3, Try.ntmps3
    go_wp2_with (first
      | (go_at_call 5; refine hz.mono ?_; rintro e w' ⟨⟨x, rfl, hx⟩, hw⟩; obtain rfl := hw.symm; have hx0 : 0 ≤ x := Int.not_lt.1 (fun hh => hx.1 hh h); clear hx)
      | (go_at_call 7; (fail_if_success have := M1); refine (copy_own FV.out h).mono ?_; rintro e w1 ⟨hb1, v1, L1, rfl, hf1, _⟩; have M1 : Hid True := trivial; have F1 : Hid (Fp w1 v1 n xs ys) := hf1; have B1 : Hid (Below w.heap.size w w1) := hb1; clear hf1 hb1)
      | (go_at_call 6; (fail_if_success have := M2); refine (HS.out _ _ F1.out).mono ?_; rintro e w2 ⟨u0, zs, rfl, ho2, hz2, hb2⟩; have M2 : Hid True := trivial; have FW : Hid (Fl w2 u0 N zs) := fl_of_own ho2; have HZ2 : Hid (∀ k, k < N → cn (zs k) = C k) := hz2; have B2 : Hid (Below w.heap.size w w2) := bstep B1.out hb2; clear ho2 hb2 hz2)
      | (go_at_call 7; have Z := M2; (fail_if_success have := M3); refine (copy_own (Fp.below FV.out B2.out) h).mono ?_; rintro e w3 ⟨hb3, x0, L3, rfl, hf3, ho3⟩; have M3 : Hid True := trivial; have FX : Hid (Fp w3 x0 n xs ys) := hf3; have OX : Hid (w3.ownsRow w2.heap.size 45 2 x0 n L3) := ho3; have B3 : Hid (Below w.heap.size w w3) := bstep B2.out hb3; have D3 : Hid (Below w2.heap.size w2 w3) := hb3; clear hf3 ho3 hb3)
      | (go_at_call 8; have Z := M3; (fail_if_success have := M4); refine (HI.out _ _ FX.out).mono ?_; rintro e w4 ⟨g0, ts, rfl, ho4, ht4, hb4⟩; have M4 : Hid True := trivial; have OG : Hid (w4.ownsRow w3.heap.size 42 1 g0 N (fls ts N)) := ho4; have HT4 : Hid (∀ k, k < N → cn (ts k) = cn (zs k)) := (fun k hk => (ht4 k hk).trans (HZ2.out k hk).symm); have FX4 : Hid (Fp w4 x0 n xs ys) := Fp.below FX.out hb4; have OX4 : Hid (w4.ownsRow w2.heap.size 45 2 x0 n L3) := own_below OX.out hb4; have B4 : Hid (Below w.heap.size w w4) := bstep B3.out hb4; have D4 : Hid (Below w2.heap.size w2 w4) := bstep D3.out hb4; have S4 : Hid (w3.heap.size ≤ w4.heap.size) := hb4.size; clear ho4 hb4 ht4)
      | (go_at_call 9; have Z := M4; (fail_if_success have := M5); refine (eqF_yes (fl_of_own OG.out) (Fl.below FW.out D4.out) hN HT4.out).mono ?_; rintro e w5 ⟨rfl, hb5⟩; have M5 : Hid True := trivial; have OG5 : Hid (w5.ownsRow w3.heap.size 42 1 g0 N (fls ts N)) := own_below OG.out hb5; have FX5 : Hid (Fp w5 x0 n xs ys) := Fp.below FX4.out hb5; have OX5 : Hid (w5.ownsRow w2.heap.size 45 2 x0 n L3) := own_below OX4.out hb5; have B5 : Hid (Below w.heap.size w w5) := bstep B4.out hb5; have D5 : Hid (Below w2.heap.size w2 w5) := bstep D4.out hb5; have S5 : Hid (w3.heap.size ≤ w5.heap.size) := Nat.le_trans S4.out hb5.size; clear hb5)
      | (go_at_call 7; have Z := M5; (fail_if_success have := M6); refine (copy_own (Fp.below FV.out B5.out) h).mono ?_; rintro e w6 ⟨hb6, y0, L6, rfl, hf6, _⟩; have M6 : Hid True := trivial; have FY : Hid (Fp w6 y0 n xs ys) := hf6; have OG6 : Hid (w6.ownsRow w3.heap.size 42 1 g0 N (fls ts N)) := own_below OG5.out hb6; have FX6 : Hid (Fp w6 x0 n xs ys) := Fp.below FX5.out hb6; have OX6 : Hid (w6.ownsRow w2.heap.size 45 2 x0 n L3) := own_below OX5.out hb6; have B6 : Hid (Below w.heap.size w w6) := bstep B5.out hb6; have D6 : Hid (Below w2.heap.size w2 w6) := bstep D5.out hb6; have S6 : Hid (w3.heap.size ≤ w6.heap.size) := Nat.le_trans S5.out hb6.size; clear hf6 hb6)
      | (go_at_call 10; have Z := M6; (fail_if_success have := M7); refine (eq_yes FX6.out FY.out h (fun _ _ => ⟨rfl, rfl⟩)).mono ?_; rintro e w7 ⟨rfl, hb7⟩; have M7 : Hid True := trivial; have OG7 : Hid (w7.ownsRow w3.heap.size 42 1 g0 N (fls ts N)) := own_below OG6.out hb7; have OX7 : Hid (w7.ownsRow w2.heap.size 45 2 x0 n L3) := own_below OX6.out hb7; have B7 : Hid (Below w.heap.size w w7) := bstep B6.out hb7; have D7 : Hid (Below w2.heap.size w2 w7) := bstep D6.out hb7; have S7 : Hid (w3.heap.size ≤ w7.heap.size) := Nat.le_trans S6.out hb7.size; clear hb7)
      | (go_at_call 11; have Z := M7; (fail_if_success have := M8); refine (marked (B := w2.heap.size) (n := n) (v := x0) (L := L3) OX7.out D7.out.size h).mono ?_; rintro e w8 ⟨rfl, _, gx, hgx, hor, hon⟩; have M8 : Hid True := trivial; have OG8 : Hid (w8.ownsRow w3.heap.size 42 1 g0 N (fls ts N)) := ownF_only' (w3 := w3) (x := x0) (m := n) (L := L3) (B3 := w2.heap.size) OG7.out hon hor OX.out; have B8 : Hid (Below w.heap.size w w8) := Below.only B7.out hon (Nat.le_trans B2.out.size hgx); have D8 : Hid (Below w2.heap.size w2 w8) := Below.only D7.out hon hgx; have S8 : Hid (w3.heap.size ≤ w8.heap.size) := Nat.le_trans S7.out hon.size; clear hon hor hgx)
      | (go_at_call 9; have Z := M8; (fail_if_success have := M9); refine (eqF_yes (fl_of_own OG8.out) (Fl.below FW.out D8.out) hN HT4.out).mono ?_; rintro e w9 ⟨rfl, hb9⟩; have M9 : Hid True := trivial; have OG9 : Hid (w9.ownsRow w3.heap.size 42 1 g0 N (fls ts N)) := own_below OG8.out hb9; have B9 : Hid (Below w.heap.size w w9) := bstep B8.out hb9; have D9 : Hid (Below w2.heap.size w2 w9) := bstep D8.out hb9; have S9 : Hid (w3.heap.size ≤ w9.heap.size) := Nat.le_trans S8.out hb9.size; clear hb9)
      | (go_at_call 12; have Z := M9; (fail_if_success have := MA); refine (markedF (B := w3.heap.size) (n := N) (v := g0) (f := ts) OG9.out S9.out hN).mono ?_; rintro e wA ⟨rfl, hmA, gg, hgg, _, hon⟩; have MA : Hid True := trivial; have MG : Hid (wA.ownsRow w3.heap.size 42 1 g0 N (fls mkf N)) := hmA; have BA : Hid (Below w.heap.size w wA) := Below.only B9.out hon (Nat.le_trans B3.out.size hgg); have DA : Hid (Below w2.heap.size w2 wA) := Below.only D9.out hon (Nat.le_trans D3.out.size hgg); clear hon hgg hmA)
      | (go_at_call 13; have Z := MA; (fail_if_success have := MB); refine (heldF MG.out hN).mono ?_; rintro e w' ⟨rfl, hw⟩; obtain rfl := hw.symm; have MB : Hid True := trivial)
      | (go_at_call 7; have Z := MB; (fail_if_success have := MC); refine (copy_own (Fp.below FV.out BA.out) h).mono ?_; rintro e wC ⟨hbC, vC, LC, rfl, hfC, _⟩; have MC : Hid True := trivial; have FC : Hid (Fp wC vC n xs ys) := hfC; have MGC : Hid (wC.ownsRow w3.heap.size 42 1 g0 N (fls mkf N)) := own_below MG.out hbC; have BC : Hid (Below w.heap.size w wC) := bstep BA.out hbC; have DC : Hid (Below w2.heap.size w2 wC) := bstep DA.out hbC; clear hfC hbC)
      | (go_at_call 8; have Z := MC; (fail_if_success have := MD); refine (HI.out _ _ FC.out).mono ?_; rintro e wD ⟨h0, qs, rfl, hoD, hqD, hbD⟩; have MD : Hid True := trivial; have OH : Hid (wD.ownsRow wC.heap.size 42 1 h0 N (fls qs N)) := hoD; have HQ : Hid (∀ k, k < N → cn (qs k) = cn (zs k)) := (fun k hk => (hqD k hk).trans (HZ2.out k hk).symm); have MGD : Hid (wD.ownsRow w3.heap.size 42 1 g0 N (fls mkf N)) := own_below MGC.out hbD; have BD : Hid (Below w.heap.size w wD) := bstep BC.out hbD; have DD : Hid (Below w2.heap.size w2 wD) := bstep DC.out hbD; clear hoD hbD hqD)
      | (go_at_call 9; have Z := MD; (fail_if_success have := ME); refine (eqF_yes (fl_of_own OH.out) (Fl.below FW.out DD.out) hN HQ.out).mono ?_; rintro e wE ⟨rfl, hbE⟩; have ME : Hid True := trivial; have MGE : Hid (wE.ownsRow w3.heap.size 42 1 g0 N (fls mkf N)) := own_below MGD.out hbE; have BE : Hid (Below w.heap.size w wE) := bstep BD.out hbE; clear hbE)
      | (go_at_call 13; have Z := ME; (fail_if_success have := MF); refine (heldF MGE.out hN).mono ?_; rintro e w' ⟨rfl, hw⟩; obtain rfl := hw.symm; have MF : Hid True := trivial))
    go_ret
    exact ⟨rfl, BE.out⟩
  · obtain ⟨ao, cap, rfl, hcap, hc⟩ := hv
    clear hc hs hi
    go_enter Try.func3, Try.ntmps3
    go_wp2_with (first | (go_at_call 5; refine hz.mono ?_; rintro e w' ⟨⟨x, rfl, hx⟩, hw⟩; obtain rfl := hw.symm; have hx0 : x < 0 := hx.2 h; clear hx))
    go_ret
    exact ⟨rfl, Below.refl _ _⟩

theorem walk_powers {w : World} {v : Value} {n : Nat} {xs ys : Nat → Nat} (hv : Fp w v n xs ys) (hn : n ≤ 9223372036854775807) : Calls Try.prog 3 #[v] w fun e w' => e = .returned (.bool true) ∧ Below w.heap.size w w' := by
  by_cases h : n ≤ 128
  · exact powers_of hv hn n (by omega) (fun k => cpw (cn (xs k)) (cn (ys k))) (fun _ W u hu => sPowers_good hu h) (fun _ W u hu => iPowers_good hu h)
  · exact powers_of hv hn 0 (by omega) (fun _ => none) (fun hm W u hu => (sPowers_bad hu h hm).mono fun e w' h => h _) (fun hm W u hu => (iPowers_bad hu h hm).mono fun e w' h => h _)
end Go.Proofs.Ytocdamhpcadfbaa
