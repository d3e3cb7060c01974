/- Ramp and Steps: the laws' walks. -/
import Derived.Test.YtgpoajcpngndhabC2
namespace Go.Proofs.Ytgpoajcpngndhab
open Go.RowKit

set_option maxHeartbeats 4000000 in
theorem wramp_of {w : World} {v : Value} {n : Nat} {xs : Nat → Int} (hv : Il w v n xs) (hn : n ≤ 9223372036854775807) (N : Nat) (hN : N ≤ 1048576) (ys : Nat → Int) (ok : Bool)
    (hs : n ≤ 1048576 → ∀ W u, Il W u n xs → Calls Try.prog 12 #[u] W fun e w' => Pst W w' e N ys ok)
    (hi : n ≤ 1048576 → ∀ W u, Il W u n xs → Calls Try.prog 13 #[u] W fun e w' => Pst W w' e N ys ok) :
    Calls Try.prog 4 #[v] w fun e w' => e = .returned (.bool true) ∧ Below w.heap.size w w' := by
  by_cases h : n ≤ 1048576
  · have FV : Hid (Il w v n xs) := hv
    have HS : Hid (∀ W u, Il W u n xs → Calls Try.prog 12 #[u] W fun e w' => Pst W w' e N ys ok) := hs h
    have HI : Hid (∀ W u, Il W u n xs → Calls Try.prog 13 #[u] W fun e w' => Pst W w' e N ys ok) := hi h
    obtain ⟨ao, cap, rfl, hcap, hc⟩ := hv
    clear hc hs hi
    go_enter Try.func4, Try.ntmps4
    go_wp2_with (first
      | (go_at_call 7; (fail_if_success have := M1); refine (copy_own FV.out h).mono ?_; rintro e w1 ⟨hb1, v1, rfl, hf1, _⟩; have M1 : Hid True := trivial; have F1 : Hid (Il w1 v1 n xs) := hf1; have B1 : Hid (Below w.heap.size w w1) := hb1; clear hf1 hb1)
      | (go_at_call 12; (fail_if_success have := M2); refine (HS.out _ _ F1.out).mono ?_; rintro e w2 ⟨u0, rfl, ho2, hb2⟩; have M2 : Hid True := trivial; have FW : Hid (Il w2 u0 N ys) := il_of_own ho2; have B2 : Hid (Below w.heap.size w w2) := bstep B1.out hb2; clear ho2 hb2)
      | (go_at_call 7; have Z := M2; (fail_if_success have := M3); refine (copy_own (Il.below FV.out B2.out) h).mono ?_; rintro e w3 ⟨hb3, x0, rfl, hf3, ho3⟩; have M3 : Hid True := trivial; have FX : Hid (Il w3 x0 n xs) := hf3; have OX : Hid (w3.ownsRow w2.heap.size 3 1 x0 n (ils xs n)) := ho3; have B3 : Hid (Below w.heap.size w w3) := bstep B2.out hb3; have D3 : Hid (Below w2.heap.size w2 w3) := hb3; clear hf3 ho3 hb3)
      | (go_at_call 13; have Z := M3; (fail_if_success have := M4); refine (HI.out _ _ FX.out).mono ?_; rintro e w4 ⟨g0, rfl, ho4, hb4⟩; have M4 : Hid True := trivial; have OG : Hid (w4.ownsRow w3.heap.size 3 1 g0 N (ils ys N)) := ho4; have FX4 : Hid (Il w4 x0 n xs) := Il.below FX.out hb4; have OX4 : Hid (w4.ownsRow w2.heap.size 3 1 x0 n (ils xs n)) := own_below OX.out hb4; have B4 : Hid (Below w.heap.size w w4) := bstep B3.out hb4; have D4 : Hid (Below w2.heap.size w2 w4) := bstep D3.out hb4; have S4 : Hid (w3.heap.size ≤ w4.heap.size) := hb4.size; clear ho4 hb4)
      | (go_at_call 9; have Z := M4; (fail_if_success have := M5); refine (eq_yes (il_of_own OG.out) (Il.below FW.out D4.out) hN).mono ?_; rintro e w5 ⟨rfl, hb5⟩; have M5 : Hid True := trivial; have OG5 : Hid (w5.ownsRow w3.heap.size 3 1 g0 N (ils ys N)) := own_below OG.out hb5; have FX5 : Hid (Il w5 x0 n xs) := Il.below FX4.out hb5; have OX5 : Hid (w5.ownsRow w2.heap.size 3 1 x0 n (ils xs n)) := own_below OX4.out hb5; have B5 : Hid (Below w.heap.size w w5) := bstep B4.out hb5; have D5 : Hid (Below w2.heap.size w2 w5) := bstep D4.out hb5; have S5 : Hid (w3.heap.size ≤ w5.heap.size) := Nat.le_trans S4.out hb5.size; clear hb5)
      | (go_at_call 7; have Z := M5; (fail_if_success have := M6); refine (copy_own (Il.below FV.out B5.out) h).mono ?_; rintro e w6 ⟨hb6, y0, rfl, hf6, _⟩; have M6 : Hid True := trivial; have FY : Hid (Il w6 y0 n xs) := hf6; have OG6 : Hid (w6.ownsRow w3.heap.size 3 1 g0 N (ils ys N)) := own_below OG5.out hb6; have FX6 : Hid (Il w6 x0 n xs) := Il.below FX5.out hb6; have OX6 : Hid (w6.ownsRow w2.heap.size 3 1 x0 n (ils xs n)) := own_below OX5.out hb6; have B6 : Hid (Below w.heap.size w w6) := bstep B5.out hb6; have D6 : Hid (Below w2.heap.size w2 w6) := bstep D5.out hb6; have S6 : Hid (w3.heap.size ≤ w6.heap.size) := Nat.le_trans S5.out hb6.size; clear hf6 hb6)
      | (go_at_call 9; have Z := M6; (fail_if_success have := M7); refine (eq_yes FX6.out FY.out h).mono ?_; rintro e w7 ⟨rfl, hb7⟩; have M7 : Hid True := trivial; have OG7 : Hid (w7.ownsRow w3.heap.size 3 1 g0 N (ils ys N)) := own_below OG6.out hb7; have OX7 : Hid (w7.ownsRow w2.heap.size 3 1 x0 n (ils xs n)) := own_below OX6.out hb7; have B7 : Hid (Below w.heap.size w w7) := bstep B6.out hb7; have D7 : Hid (Below w2.heap.size w2 w7) := bstep D6.out hb7; have S7 : Hid (w3.heap.size ≤ w7.heap.size) := Nat.le_trans S6.out hb7.size; clear hb7)
      | (go_at_call 10; have Z := M7; (fail_if_success have := M8); refine (marked (B := w2.heap.size) (n := n) (v := x0) (f := xs) OX7.out D7.out.size h).mono ?_; rintro e w8 ⟨rfl, _, gx, hgx, hor, hon⟩; have M8 : Hid True := trivial; have OG8 : Hid (w8.ownsRow w3.heap.size 3 1 g0 N (ils ys N)) := own_only' (w3 := w3) (e := 3) (s := 1) (v := g0) (n := N) (xs := ils ys N) (x := x0) (m := n) (L := ils xs n) (B3 := w2.heap.size) OG7.out hon hor OX.out; have B8 : Hid (Below w.heap.size w w8) := Below.only B7.out hon (Nat.le_trans B2.out.size hgx); have D8 : Hid (Below w2.heap.size w2 w8) := Below.only D7.out hon hgx; have S8 : Hid (w3.heap.size ≤ w8.heap.size) := Nat.le_trans S7.out hon.size; clear hon hor hgx)
      | (go_at_call 9; have Z := M8; (fail_if_success have := M9); refine (eq_yes (il_of_own OG8.out) (Il.below FW.out D8.out) hN).mono ?_; rintro e w9 ⟨rfl, hb9⟩; have M9 : Hid True := trivial; have OG9 : Hid (w9.ownsRow w3.heap.size 3 1 g0 N (ils ys N)) := own_below OG8.out hb9; have B9 : Hid (Below w.heap.size w w9) := bstep B8.out hb9; have D9 : Hid (Below w2.heap.size w2 w9) := bstep D8.out hb9; have S9 : Hid (w3.heap.size ≤ w9.heap.size) := Nat.le_trans S8.out hb9.size; clear hb9)
      | (go_at_call 10; have Z := M9; (fail_if_success have := MA); refine (marked (B := w3.heap.size) (n := N) (v := g0) (f := ys) OG9.out S9.out hN).mono ?_; rintro e wA ⟨rfl, hmA, gg, hgg, _, hon⟩; have MA : Hid True := trivial; have MG : Hid (wA.ownsRow w3.heap.size 3 1 g0 N (ils mks N)) := hmA; have BA : Hid (Below w.heap.size w wA) := Below.only B9.out hon (Nat.le_trans B3.out.size hgg); have DA : Hid (Below w2.heap.size w2 wA) := Below.only D9.out hon (Nat.le_trans D3.out.size hgg); clear hon hgg hmA)
      | (go_at_call 11; have Z := MA; (fail_if_success have := MB); refine (held MG.out hN).mono ?_; rintro e w' ⟨rfl, hw⟩; obtain rfl := hw.symm; have MB : Hid True := trivial)
      | (go_at_call 7; have Z := MB; (fail_if_success have := MC); refine (copy_own (Il.below FV.out BA.out) h).mono ?_; rintro e wC ⟨hbC, vC, rfl, hfC, _⟩; have MC : Hid True := trivial; have FC : Hid (Il wC vC n xs) := hfC; have MGC : Hid (wC.ownsRow w3.heap.size 3 1 g0 N (ils mks N)) := own_below MG.out hbC; have BC : Hid (Below w.heap.size w wC) := bstep BA.out hbC; have DC : Hid (Below w2.heap.size w2 wC) := bstep DA.out hbC; clear hfC hbC)
      | (go_at_call 13; have Z := MC; (fail_if_success have := MD); refine (HI.out _ _ FC.out).mono ?_; rintro e wD ⟨h0, rfl, hoD, hbD⟩; have MD : Hid True := trivial; have OH : Hid (wD.ownsRow wC.heap.size 3 1 h0 N (ils ys N)) := hoD; have MGD : Hid (wD.ownsRow w3.heap.size 3 1 g0 N (ils mks N)) := own_below MGC.out hbD; have BD : Hid (Below w.heap.size w wD) := bstep BC.out hbD; have DD : Hid (Below w2.heap.size w2 wD) := bstep DC.out hbD; clear hoD hbD)
      | (go_at_call 9; have Z := MD; (fail_if_success have := ME); refine (eq_yes (il_of_own OH.out) (Il.below FW.out DD.out) hN).mono ?_; rintro e wE ⟨rfl, hbE⟩; have ME : Hid True := trivial; have MGE : Hid (wE.ownsRow w3.heap.size 3 1 g0 N (ils mks N)) := own_below MGD.out hbE; have BE : Hid (Below w.heap.size w wE) := bstep BD.out hbE; clear hbE)
      | (go_at_call 11; have Z := ME; (fail_if_success have := MF); refine (held MGE.out hN).mono ?_; rintro e w' ⟨rfl, hw⟩; obtain rfl := hw.symm; have MF : Hid True := trivial))
    go_ret
    exact ⟨rfl, BE.out⟩
  · obtain ⟨ao, cap, rfl, hcap, hc⟩ := hv
    clear hc hs hi
    go_enter Try.func4, Try.ntmps4
    go_wp2
    go_ret
    exact ⟨rfl, Below.refl _ _⟩

theorem walk_ramp {w : World} {v : Value} {n : Nat} {xs : Nat → Int} (hv : Il w v n xs) (hn : n ≤ 9223372036854775807) : Calls Try.prog 4 #[v] w fun e w' => e = .returned (.bool true) ∧ Below w.heap.size w w' := by
  by_cases hg : GR n xs
  · have h1 := hg.1.1
    exact wramp_of hv hn n (by omega) _ true (fun h W u hu => sRamp_any hu h n _ true (fun _ => ⟨rfl, rfl, rfl⟩) (fun h => absurd hg h)) (fun h W u hu => iRamp_any hu h n _ true (fun _ => ⟨rfl, rfl, rfl⟩) (fun h => absurd hg h))
  · exact wramp_of hv hn 0 (by omega) (fun _ => 0) false (fun h W u hu => sRamp_any hu h 0 _ false (fun h => absurd h hg) (fun _ => ⟨rfl, rfl⟩)) (fun h W u hu => iRamp_any hu h 0 _ false (fun h => absurd h hg) (fun _ => ⟨rfl, rfl⟩))

set_option maxHeartbeats 4000000 in
theorem wsteps_of {w : World} {v : Value} {n : Nat} {xs : Nat → Int} (hv : Il w v n xs) (hn : n ≤ 9223372036854775807) (N : Nat) (hN : N ≤ 1048576) (ys : Nat → Int) (ok : Bool)
    (hs : n ≤ 1048576 → ∀ W u, Il W u n xs → Calls Try.prog 14 #[u] W fun e w' => Pst W w' e N ys ok)
    (hi : n ≤ 1048576 → ∀ W u, Il W u n xs → Calls Try.prog 15 #[u] W fun e w' => Pst W w' e N ys ok) :
    Calls Try.prog 5 #[v] w fun e w' => e = .returned (.bool true) ∧ Below w.heap.size w w' := by
  by_cases h : n ≤ 1048576
  · have FV : Hid (Il w v n xs) := hv
    have HS : Hid (∀ W u, Il W u n xs → Calls Try.prog 14 #[u] W fun e w' => Pst W w' e N ys ok) := hs h
    have HI : Hid (∀ W u, Il W u n xs → Calls Try.prog 15 #[u] W fun e w' => Pst W w' e N ys ok) := hi h
    obtain ⟨ao, cap, rfl, hcap, hc⟩ := hv
    clear hc hs hi
    go_enter Try.func5, Try.ntmps5
    go_wp2_with (first
      | (go_at_call 7; (fail_if_success have := M1); refine (copy_own FV.out h).mono ?_; rintro e w1 ⟨hb1, v1, rfl, hf1, _⟩; have M1 : Hid True := trivial; have F1 : Hid (Il w1 v1 n xs) := hf1; have B1 : Hid (Below w.heap.size w w1) := hb1; clear hf1 hb1)
      | (go_at_call 14; (fail_if_success have := M2); refine (HS.out _ _ F1.out).mono ?_; rintro e w2 ⟨u0, rfl, ho2, hb2⟩; have M2 : Hid True := trivial; have FW : Hid (Il w2 u0 N ys) := il_of_own ho2; have B2 : Hid (Below w.heap.size w w2) := bstep B1.out hb2; clear ho2 hb2)
      | (go_at_call 7; have Z := M2; (fail_if_success have := M3); refine (copy_own (Il.below FV.out B2.out) h).mono ?_; rintro e w3 ⟨hb3, x0, rfl, hf3, ho3⟩; have M3 : Hid True := trivial; have FX : Hid (Il w3 x0 n xs) := hf3; have OX : Hid (w3.ownsRow w2.heap.size 3 1 x0 n (ils xs n)) := ho3; have B3 : Hid (Below w.heap.size w w3) := bstep B2.out hb3; have D3 : Hid (Below w2.heap.size w2 w3) := hb3; clear hf3 ho3 hb3)
      | (go_at_call 15; have Z := M3; (fail_if_success have := M4); refine (HI.out _ _ FX.out).mono ?_; rintro e w4 ⟨g0, rfl, ho4, hb4⟩; have M4 : Hid True := trivial; have OG : Hid (w4.ownsRow w3.heap.size 3 1 g0 N (ils ys N)) := ho4; have FX4 : Hid (Il w4 x0 n xs) := Il.below FX.out hb4; have OX4 : Hid (w4.ownsRow w2.heap.size 3 1 x0 n (ils xs n)) := own_below OX.out hb4; have B4 : Hid (Below w.heap.size w w4) := bstep B3.out hb4; have D4 : Hid (Below w2.heap.size w2 w4) := bstep D3.out hb4; have S4 : Hid (w3.heap.size ≤ w4.heap.size) := hb4.size; clear ho4 hb4)
      | (go_at_call 9; have Z := M4; (fail_if_success have := M5); refine (eq_yes (il_of_own OG.out) (Il.below FW.out D4.out) hN).mono ?_; rintro e w5 ⟨rfl, hb5⟩; have M5 : Hid True := trivial; have OG5 : Hid (w5.ownsRow w3.heap.size 3 1 g0 N (ils ys N)) := own_below OG.out hb5; have FX5 : Hid (Il w5 x0 n xs) := Il.below FX4.out hb5; have OX5 : Hid (w5.ownsRow w2.heap.size 3 1 x0 n (ils xs n)) := own_below OX4.out hb5; have B5 : Hid (Below w.heap.size w w5) := bstep B4.out hb5; have D5 : Hid (Below w2.heap.size w2 w5) := bstep D4.out hb5; have S5 : Hid (w3.heap.size ≤ w5.heap.size) := Nat.le_trans S4.out hb5.size; clear hb5)
      | (go_at_call 7; have Z := M5; (fail_if_success have := M6); refine (copy_own (Il.below FV.out B5.out) h).mono ?_; rintro e w6 ⟨hb6, y0, rfl, hf6, _⟩; have M6 : Hid True := trivial; have FY : Hid (Il w6 y0 n xs) := hf6; have OG6 : Hid (w6.ownsRow w3.heap.size 3 1 g0 N (ils ys N)) := own_below OG5.out hb6; have FX6 : Hid (Il w6 x0 n xs) := Il.below FX5.out hb6; have OX6 : Hid (w6.ownsRow w2.heap.size 3 1 x0 n (ils xs n)) := own_below OX5.out hb6; have B6 : Hid (Below w.heap.size w w6) := bstep B5.out hb6; have D6 : Hid (Below w2.heap.size w2 w6) := bstep D5.out hb6; have S6 : Hid (w3.heap.size ≤ w6.heap.size) := Nat.le_trans S5.out hb6.size; clear hf6 hb6)
      | (go_at_call 9; have Z := M6; (fail_if_success have := M7); refine (eq_yes FX6.out FY.out h).mono ?_; rintro e w7 ⟨rfl, hb7⟩; have M7 : Hid True := trivial; have OG7 : Hid (w7.ownsRow w3.heap.size 3 1 g0 N (ils ys N)) := own_below OG6.out hb7; have OX7 : Hid (w7.ownsRow w2.heap.size 3 1 x0 n (ils xs n)) := own_below OX6.out hb7; have B7 : Hid (Below w.heap.size w w7) := bstep B6.out hb7; have D7 : Hid (Below w2.heap.size w2 w7) := bstep D6.out hb7; have S7 : Hid (w3.heap.size ≤ w7.heap.size) := Nat.le_trans S6.out hb7.size; clear hb7)
      | (go_at_call 10; have Z := M7; (fail_if_success have := M8); refine (marked (B := w2.heap.size) (n := n) (v := x0) (f := xs) OX7.out D7.out.size h).mono ?_; rintro e w8 ⟨rfl, _, gx, hgx, hor, hon⟩; have M8 : Hid True := trivial; have OG8 : Hid (w8.ownsRow w3.heap.size 3 1 g0 N (ils ys N)) := own_only' (w3 := w3) (e := 3) (s := 1) (v := g0) (n := N) (xs := ils ys N) (x := x0) (m := n) (L := ils xs n) (B3 := w2.heap.size) OG7.out hon hor OX.out; have B8 : Hid (Below w.heap.size w w8) := Below.only B7.out hon (Nat.le_trans B2.out.size hgx); have D8 : Hid (Below w2.heap.size w2 w8) := Below.only D7.out hon hgx; have S8 : Hid (w3.heap.size ≤ w8.heap.size) := Nat.le_trans S7.out hon.size; clear hon hor hgx)
      | (go_at_call 9; have Z := M8; (fail_if_success have := M9); refine (eq_yes (il_of_own OG8.out) (Il.below FW.out D8.out) hN).mono ?_; rintro e w9 ⟨rfl, hb9⟩; have M9 : Hid True := trivial; have OG9 : Hid (w9.ownsRow w3.heap.size 3 1 g0 N (ils ys N)) := own_below OG8.out hb9; have B9 : Hid (Below w.heap.size w w9) := bstep B8.out hb9; have D9 : Hid (Below w2.heap.size w2 w9) := bstep D8.out hb9; have S9 : Hid (w3.heap.size ≤ w9.heap.size) := Nat.le_trans S8.out hb9.size; clear hb9)
      | (go_at_call 10; have Z := M9; (fail_if_success have := MA); refine (marked (B := w3.heap.size) (n := N) (v := g0) (f := ys) OG9.out S9.out hN).mono ?_; rintro e wA ⟨rfl, hmA, gg, hgg, _, hon⟩; have MA : Hid True := trivial; have MG : Hid (wA.ownsRow w3.heap.size 3 1 g0 N (ils mks N)) := hmA; have BA : Hid (Below w.heap.size w wA) := Below.only B9.out hon (Nat.le_trans B3.out.size hgg); have DA : Hid (Below w2.heap.size w2 wA) := Below.only D9.out hon (Nat.le_trans D3.out.size hgg); clear hon hgg hmA)
      | (go_at_call 11; have Z := MA; (fail_if_success have := MB); refine (held MG.out hN).mono ?_; rintro e w' ⟨rfl, hw⟩; obtain rfl := hw.symm; have MB : Hid True := trivial)
      | (go_at_call 7; have Z := MB; (fail_if_success have := MC); refine (copy_own (Il.below FV.out BA.out) h).mono ?_; rintro e wC ⟨hbC, vC, rfl, hfC, _⟩; have MC : Hid True := trivial; have FC : Hid (Il wC vC n xs) := hfC; have MGC : Hid (wC.ownsRow w3.heap.size 3 1 g0 N (ils mks N)) := own_below MG.out hbC; have BC : Hid (Below w.heap.size w wC) := bstep BA.out hbC; have DC : Hid (Below w2.heap.size w2 wC) := bstep DA.out hbC; clear hfC hbC)
      | (go_at_call 15; have Z := MC; (fail_if_success have := MD); refine (HI.out _ _ FC.out).mono ?_; rintro e wD ⟨h0, rfl, hoD, hbD⟩; have MD : Hid True := trivial; have OH : Hid (wD.ownsRow wC.heap.size 3 1 h0 N (ils ys N)) := hoD; have MGD : Hid (wD.ownsRow w3.heap.size 3 1 g0 N (ils mks N)) := own_below MGC.out hbD; have BD : Hid (Below w.heap.size w wD) := bstep BC.out hbD; have DD : Hid (Below w2.heap.size w2 wD) := bstep DC.out hbD; clear hoD hbD)
      | (go_at_call 9; have Z := MD; (fail_if_success have := ME); refine (eq_yes (il_of_own OH.out) (Il.below FW.out DD.out) hN).mono ?_; rintro e wE ⟨rfl, hbE⟩; have ME : Hid True := trivial; have MGE : Hid (wE.ownsRow w3.heap.size 3 1 g0 N (ils mks N)) := own_below MGD.out hbE; have BE : Hid (Below w.heap.size w wE) := bstep BD.out hbE; clear hbE)
      | (go_at_call 11; have Z := ME; (fail_if_success have := MF); refine (held MGE.out hN).mono ?_; rintro e w' ⟨rfl, hw⟩; obtain rfl := hw.symm; have MF : Hid True := trivial))
    go_ret
    exact ⟨rfl, BE.out⟩
  · obtain ⟨ao, cap, rfl, hcap, hc⟩ := hv
    clear hc hs hi
    go_enter Try.func5, Try.ntmps5
    go_wp2
    go_ret
    exact ⟨rfl, Below.refl _ _⟩

theorem walk_steps {w : World} {v : Value} {n : Nat} {xs : Nat → Int} (hv : Il w v n xs) (hn : n ≤ 9223372036854775807) : Calls Try.prog 5 #[v] w fun e w' => e = .returned (.bool true) ∧ Below w.heap.size w w' := by
  by_cases hg : GS n xs
  · have h1 := hg.1.1
    exact wsteps_of hv hn n (by omega) _ true (fun h W u hu => sSteps_any hu h n _ true (fun _ => ⟨rfl, rfl, rfl⟩) (fun h => absurd hg h)) (fun h W u hu => iSteps_any hu h n _ true (fun _ => ⟨rfl, rfl, rfl⟩) (fun h => absurd hg h))
  · exact wsteps_of hv hn 0 (by omega) (fun _ => 0) false (fun h W u hu => sSteps_any hu h 0 _ false (fun h => absurd h hg) (fun _ => ⟨rfl, rfl⟩)) (fun h W u hu => iSteps_any hu h 0 _ false (fun h => absurd h hg) (fun _ => ⟨rfl, rfl⟩))
end Go.Proofs.Ytgpoajcpngndhab
