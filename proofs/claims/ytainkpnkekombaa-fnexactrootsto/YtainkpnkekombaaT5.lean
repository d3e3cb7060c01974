/- RootsTo: the law's walk. -/
import Derived.Test.YtainkpnkekombaaT3
import Derived.Test.YtainkpnkekombaaT4
import Derived.Test.YtainkpnkekombaaL6
namespace Go.Proofs.Ytainkpnkekombaa
open Go.RowKit

theorem ow_of_own {w : World} {B n : Nat} {v : Value} {L : List Value} (h : w.ownsRow B 27 2 v n L) : (n = 0 ∧ v = .slice none 0 0) ∨ ∃ g cap f, v = .slice (some ⟨g, 0, none⟩) n cap ∧ B ≤ g ∧ g < w.heap.size ∧ Ow w B g n cap f := by
  rcases h.2 with ⟨h1, h2⟩ | ⟨g, cap, cur, rfl, hb, hg, _⟩
  · exact .inl ⟨h2, h1⟩
  · refine .inr ⟨g, cap, fun i => L.getD i (.bool false), rfl, hb, (Array.getElem?_eq_some_iff.1 hg).1, ?_⟩
    have e := list_fun L
    rw [h.1] at e
    unfold Ow
    rw [← e]
    exact h

set_option maxHeartbeats 1000000 in
theorem mark_nil (w : World) : Calls Try.prog 14 #[.slice none 0 0, .int .i64 1] w fun e w' => e = .returned (.int .i64 1) ∧ w' = w := by
  go_enter Try.func14, Try.ntmps14
  go_wp2
  go_loopw [1, 5] (fun kk i wr => i = .int .i64 0 ∧ kk = .int .i64 1 ∧ wr = w) (fun _ _ _ => 0)
  case atStart => exact ⟨rfl, rfl, rfl⟩
  case round =>
    obtain ⟨rfl, rfl, rfl⟩ := hrel
    go_wp2
    go_ret
    exact ⟨rfl, rfl⟩

set_option maxHeartbeats 1000000 in
theorem held_nil (w : World) : Calls Try.prog 15 #[.slice none 0 0, .int .i64 1] w fun e w' => e = .returned (.int .i64 1) ∧ w' = w := by
  go_enter Try.func15, Try.ntmps15
  go_wp2
  go_loopw [1, 5] (fun kk i wr => i = .int .i64 0 ∧ kk = .int .i64 1 ∧ wr = w) (fun _ _ _ => 0)
  case atStart => exact ⟨rfl, rfl, rfl⟩
  case round =>
    obtain ⟨rfl, rfl, rfl⟩ := hrel
    go_wp2
    go_ret
    exact ⟨rfl, rfl⟩

/-- A row that bears its marks. -/
def Marked (w : World) (B : Nat) (v : Value) (n : Nat) : Prop := (n = 0 ∧ v = .slice none 0 0) ∨ ∃ g cap f, v = .slice (some ⟨g, 0, none⟩) n cap ∧ Ow w B g n cap f ∧ Mk f n

theorem Marked.below {w w' : World} {B n : Nat} {v : Value} (h : Marked w B v n) (hb : Below w.heap.size w w') : Marked w' B v n := by
  rcases h with h | ⟨g, cap, f, rfl, ho, hm⟩
  · exact .inl h
  · exact .inr ⟨g, cap, f, rfl, Ow.below ho hb, hm⟩

/-- Marked: what the row's world turns into. -/
theorem marked {w : World} {B n : Nat} {v : Value} {L : List Value} (h : w.ownsRow B 27 2 v n L) (hB : B ≤ w.heap.size) (hn : n ≤ 1048576) :
    Calls Try.prog 14 #[v, .int .i64 1] w fun e w' => e = .returned (.int .i64 (1 + 2 * (n : Int))) ∧ Marked w' B v n ∧ ∃ g, B ≤ g ∧ (v.ownBlock = some g ∨ w' = w) ∧ Only g w w' := by
  rcases ow_of_own h with ⟨rfl, rfl⟩ | ⟨g, cap, f, rfl, hg, hlt, ho⟩
  · refine (mark_nil w).mono ?_
    rintro e w' ⟨rfl, rfl⟩
    exact ⟨rfl, .inl ⟨rfl, rfl⟩, w'.heap.size, hB, .inr rfl, Only.refl _ _⟩
  · refine (mark_any ho hn).mono ?_
    rintro e w' ⟨rfl, ⟨f', h1, h2⟩, hon⟩
    exact ⟨rfl, .inr ⟨g, cap, f', rfl, h1, h2⟩, g, hg, .inl rfl, hon⟩

theorem held {w : World} {B n : Nat} {v : Value} (h : Marked w B v n) (hn : n ≤ 1048576) : Calls Try.prog 15 #[v, .int .i64 1] w fun e w' => e = .returned (.int .i64 (1 + 2 * (n : Int))) ∧ w' = w := by
  rcases h with ⟨rfl, rfl⟩ | ⟨g, cap, f, rfl, ho, hm⟩
  · exact held_nil w
  · exact held_any ho hm hn

/-- A row made behind another one stays as that other one is marked. -/
theorem own_only' {w w' w3 : World} {B3 s n m g : Nat} {e : TypeId} {v x : Value} {xs L : List Value} (h : w.ownsRow w3.heap.size e s v n xs) (ho : Only g w w') (hor : x.ownBlock = some g ∨ w' = w) (hx : w3.ownsRow B3 e s x m L) : w'.ownsRow w3.heap.size e s v n xs := by
  rcases hor with hg | rfl
  · exact own_only h ho (World.ownsRow.lt hx g hg).2
  · exact h

set_option maxHeartbeats 3000000 in
theorem walk_roots_of {w : World} {v : Value} {n : Nat} {xs ys : Nat → Nat} (hv : Fp w v n xs ys) (hn : n ≤ 9223372036854775807) (N : Nat) (hN : N ≤ 128) (F : Nat → Option Nat × Option Nat)
    (hs : ∀ W u, Fp W u n xs ys → Calls Try.prog 12 #[u] W fun e w' => ∃ u' X Y, e = .returned u' ∧ Fp w' u' N X Y ∧ (∀ j, j < N → cn (X j) = (F j).1 ∧ cn (Y j) = (F j).2) ∧ Below W.heap.size W w')
    (hi : ∀ W u, Fp W u n xs ys → Calls Try.prog 13 #[u] W fun e w' => ∃ u' X Y, e = .returned u' ∧ w'.ownsRow W.heap.size 27 2 u' N (cl2 X Y N) ∧ (∀ j, j < N → cn (X j) = (F j).1 ∧ cn (Y j) = (F j).2) ∧ Below W.heap.size W w') :
    Calls Try.prog 4 #[v] w fun e w' => e = .returned (.bool true) ∧ Below w.heap.size w w' := by
  have hz := fun W (hb : Below w.heap.size w W) => sz_any (hv.below hb) hn
  by_cases h : n ≤ 1048576
  · rw [if_pos h] at hz
    have FV : Hid (Fp w v n xs ys) := hv
    have HS : Hid _ := hs
    have HI : Hid _ := hi
    obtain ⟨ao, cap, rfl, hcap, hc⟩ := hv
    clear hc hs hi
    go_enter Try.func4, Try.ntmps4
    go_wp2_with (first
      | (go_at_call 5; refine (hz _ (Below.refl _ _)).mono ?_; rintro e w' ⟨rfl, hw⟩; obtain rfl := hw.symm)
      | (go_at_call 7; (fail_if_success have := M1); refine (copy_own FV.out h).mono ?_; rintro e w1 ⟨hb1, v1, L1, rfl, hf1, _⟩; have M1 : Hid True := trivial; have F1 : Hid (Fp w1 v1 n xs ys) := hf1; have B1 : Hid _ := hb1; clear hf1 hb1)
      | (go_at_call 12; refine (HS.out _ _ F1.out).mono ?_; rintro e w2 ⟨u0, X0, Y0, rfl, hf2, hc2, hb2⟩; have M2 : Hid True := trivial; have FW : Hid (Fp w2 u0 N X0 Y0) := hf2; have CW : Hid _ := hc2; have B2 : Hid _ := bstep B1.out hb2; clear hf2 hc2 hb2)
      | (go_at_call 7; have Z := M2; (fail_if_success have := M3); refine (copy_own (Fp.below FV.out B2.out) h).mono ?_; rintro e w3 ⟨hb3, x0, L3, rfl, hf3, ho3⟩; have M3 : Hid True := trivial; have FX : Hid (Fp w3 x0 n xs ys) := hf3; have OX : Hid (w3.ownsRow w2.heap.size 27 2 x0 n L3) := ho3; have B3 : Hid _ := bstep B2.out hb3; have D3 : Hid _ := hb3; clear hf3 ho3 hb3)
      | (go_at_call 13; have Z := M3; (fail_if_success have := M4); refine (HI.out _ _ FX.out).mono ?_; rintro e w4 ⟨g0, X4, Y4, rfl, ho4, hc4, hb4⟩; have M4 : Hid True := trivial; have OG : Hid (w4.ownsRow w3.heap.size 27 2 g0 N (cl2 X4 Y4 N)) := ho4; have CG : Hid _ := hc4; have FX4 : Hid (Fp _ x0 n xs ys) := Fp.below FX.out hb4; have OX4 : Hid (World.ownsRow _ w2.heap.size 27 2 x0 n L3) := own_below OX.out hb4; have B4 : Hid _ := bstep B3.out hb4; have D4 : Hid _ := bstep D3.out hb4; have S4 : Hid _ := hb4.size; clear ho4 hc4 hb4)
      | (go_at_call 11; have Z := M4; (fail_if_success have := M5); refine (eq_yes (fp_of_own OG.out) (Fp.below FW.out D4.out) (by omega) (fun j hj => ⟨(CG.out j hj).1.trans (CW.out j hj).1.symm, (CG.out j hj).2.trans (CW.out j hj).2.symm⟩)).mono ?_; rintro e w5 ⟨rfl, hb5⟩; have M5 : Hid True := trivial; have OG5 : Hid (World.ownsRow _ w3.heap.size 27 2 g0 N (cl2 X4 Y4 N)) := own_below OG.out hb5; have FX5 : Hid (Fp _ x0 n xs ys) := Fp.below FX4.out hb5; have OX5 : Hid (World.ownsRow _ w2.heap.size 27 2 x0 n L3) := own_below OX4.out hb5; have B5 : Hid _ := bstep B4.out hb5; have D5 : Hid _ := bstep D4.out hb5; have S5 : Hid _ := Nat.le_trans S4.out hb5.size; clear hb5)
      | (go_at_call 7; have Z := M5; (fail_if_success have := M6); refine (copy_own (Fp.below FV.out B5.out) h).mono ?_; rintro e w6 ⟨hb6, y0, L6, rfl, hf6, _⟩; have M6 : Hid True := trivial; have FY : Hid (Fp w6 y0 n xs ys) := hf6; have OG6 : Hid (World.ownsRow _ w3.heap.size 27 2 g0 N (cl2 X4 Y4 N)) := own_below OG5.out hb6; have FX6 : Hid (Fp _ x0 n xs ys) := Fp.below FX5.out hb6; have OX6 : Hid (World.ownsRow _ w2.heap.size 27 2 x0 n L3) := own_below OX5.out hb6; have B6 : Hid _ := bstep B5.out hb6; have D6 : Hid _ := bstep D5.out hb6; have S6 : Hid _ := Nat.le_trans S5.out hb6.size; clear hf6 hb6)
      | (go_at_call 11; have Z := M6; (fail_if_success have := M7); refine (eq_yes FX6.out FY.out h (fun j hj => ⟨rfl, rfl⟩)).mono ?_; rintro e w7 ⟨rfl, hb7⟩; have M7 : Hid True := trivial; have OG7 : Hid (World.ownsRow _ w3.heap.size 27 2 g0 N (cl2 X4 Y4 N)) := own_below OG6.out hb7; have OX7 : Hid (World.ownsRow _ w2.heap.size 27 2 x0 n L3) := own_below OX6.out hb7; have B7 : Hid _ := bstep B6.out hb7; have D7 : Hid _ := bstep D6.out hb7; have S7 : Hid _ := Nat.le_trans S6.out hb7.size; clear hb7)
      | (go_at_call 14; have Z := M7; (fail_if_success have := M8); refine (marked (B := w2.heap.size) (n := n) (v := x0) (L := L3) OX7.out D7.out.size h).mono ?_; rintro e w8 ⟨rfl, _, gx, hgx, hor, hon⟩; have M8 : Hid True := trivial; have OG8 : Hid (World.ownsRow _ w3.heap.size 27 2 g0 N (cl2 X4 Y4 N)) := own_only' (w3 := w3) (e := 27) (s := 2) (v := g0) (n := N) (xs := cl2 X4 Y4 N) (x := x0) (m := n) (L := L3) (B3 := w2.heap.size) OG7.out hon hor OX.out; have B8 : Hid _ := Below.only B7.out hon (Nat.le_trans B2.out.size hgx); have D8 : Hid _ := Below.only D7.out hon hgx; have S8 : Hid _ := Nat.le_trans S7.out hon.size; clear hon hor hgx)
      | (go_at_call 11; have Z := M8; (fail_if_success have := M9); refine (eq_yes (fp_of_own OG8.out) (Fp.below FW.out D8.out) (by omega) (fun j hj => ⟨(CG.out j hj).1.trans (CW.out j hj).1.symm, (CG.out j hj).2.trans (CW.out j hj).2.symm⟩)).mono ?_; rintro e w9 ⟨rfl, hb9⟩; have M9 : Hid True := trivial; have OG9 : Hid (World.ownsRow _ w3.heap.size 27 2 g0 N (cl2 X4 Y4 N)) := own_below OG8.out hb9; have B9 : Hid _ := bstep B8.out hb9; have D9 : Hid _ := bstep D8.out hb9; have S9 : Hid _ := Nat.le_trans S8.out hb9.size; clear hb9)
      | (go_at_call 14; have Z := M9; (fail_if_success have := MA); refine (marked (B := w3.heap.size) (n := N) (v := g0) (L := cl2 X4 Y4 N) OG9.out S9.out (by omega)).mono ?_; rintro e wA ⟨rfl, hmA, gg, hgg, _, hon⟩; have MA : Hid True := trivial; have MG : Hid (Marked wA w3.heap.size g0 N) := hmA; have BA : Hid _ := Below.only B9.out hon (Nat.le_trans B3.out.size hgg); have DA : Hid _ := Below.only D9.out hon (Nat.le_trans D3.out.size hgg); clear hon hgg hmA)
      | (go_at_call 15; have Z := MA; (fail_if_success have := MB); refine (held MG.out (by omega)).mono ?_; rintro e w' ⟨rfl, hw⟩; obtain rfl := hw.symm; have MB : Hid True := trivial)
      | (go_at_call 7; have Z := MB; (fail_if_success have := MC); refine (copy_own (Fp.below FV.out BA.out) h).mono ?_; rintro e wC ⟨hbC, vC, LC, rfl, hfC, _⟩; have MC : Hid True := trivial; have FC : Hid (Fp wC vC n xs ys) := hfC; have MGC : Hid (Marked _ w3.heap.size g0 N) := Marked.below MG.out hbC; have BC : Hid _ := bstep BA.out hbC; have DC : Hid _ := bstep DA.out hbC; clear hfC hbC)
      | (go_at_call 13; have Z := MC; (fail_if_success have := MD); refine (HI.out _ _ FC.out).mono ?_; rintro e wD ⟨h0, XD, YD, rfl, hoD, hcD, hbD⟩; have MD : Hid True := trivial; have OH : Hid (wD.ownsRow wC.heap.size 27 2 h0 N (cl2 XD YD N)) := hoD; have CH : Hid _ := hcD; have MGD : Hid (Marked _ w3.heap.size g0 N) := Marked.below MGC.out hbD; have BD : Hid _ := bstep BC.out hbD; have DD : Hid _ := bstep DC.out hbD; clear hoD hcD hbD)
      | (go_at_call 11; have Z := MD; (fail_if_success have := ME); refine (eq_yes (fp_of_own OH.out) (Fp.below FW.out DD.out) (by omega) (fun j hj => ⟨(CH.out j hj).1.trans (CW.out j hj).1.symm, (CH.out j hj).2.trans (CW.out j hj).2.symm⟩)).mono ?_; rintro e wE ⟨rfl, hbE⟩; have ME : Hid True := trivial; have MGE : Hid (Marked _ w3.heap.size g0 N) := Marked.below MGD.out hbE; have BE : Hid _ := bstep BD.out hbE; clear hbE)
      | (go_at_call 15; have Z := ME; (fail_if_success have := MF); refine (held MGE.out (by omega)).mono ?_; rintro e w' ⟨rfl, hw⟩; obtain rfl := hw.symm; have MF : Hid True := trivial))
    go_ret
    exact ⟨rfl, BE.out⟩
  · rw [if_neg h] at hz
    obtain ⟨ao, cap, rfl, hcap, hc⟩ := hv
    clear hc
    go_enter Try.func4, Try.ntmps4
    go_wp2_with (go_at_call 5; refine (hz _ (Below.refl _ _)).mono ?_; rintro e w' ⟨rfl, hw⟩; obtain rfl := hw.symm)
    go_ret
    exact ⟨rfl, Below.refl _ _⟩
end Go.Proofs.Ytainkpnkekombaa
