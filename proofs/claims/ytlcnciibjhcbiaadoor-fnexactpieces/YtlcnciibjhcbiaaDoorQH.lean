/- Pieces: the law. -/
import Derived.Test.YtlcnciibjhcbiaaDoorQF
import Derived.Test.YtlcnciibjhcbiaaDoorQG
namespace Go.Proofs.YtlcnciibjhcbiaaDoor
open Go.RowKit

/-- Pieces that hold the same: eqPairSS says so. -/
theorem pcs_eq {w : World} {B B' n c : Nat} {u v : Value} {C : Nat → Nat → Option Nat × Option Nat} (hu : Pcs w B u n c C) (hv : Pcs w B' v n c C) (hn : n ≤ 128) (hc : c ≤ 128) :
    Calls Tryd.prog 17 #[u, v] w fun e w' => e = .returned (.bool true) ∧ Below w.heap.size w w' := by
  obtain ⟨gs, cs, F, X, Y, h1, h2, h3⟩ := hu
  obtain ⟨gs', cs', F', X', Y', g1, g2, g3⟩ := hv
  exact eqSS_yes (h1.fpp h2) (g1.fpp g2) (by omega) (by omega) (fun k hk i hi => Prod.mk.inj ((h3 k hk i hi).trans (g3 k hk i hi).symm))

/-- Marked pieces. -/
def Pmk (w : World) (B : Nat) (o : Value) (n c : Nat) : Prop := ∃ gs cs F, Pgr w B o n c gs cs F ∧ mkq c n n F

theorem Pmk.call {w w' : World} {B n c : Nat} {o : Value} (h : Pmk w B o n c) (hb : Below w.heap.size w w') : Pmk w' B o n c := by
  obtain ⟨gs, cs, F, h1, h2⟩ := h
  exact ⟨gs, cs, F, h1.call hb, h2⟩

theorem pcs_mark {w : World} {B n c : Nat} {o : Value} {C : Nat → Nat → Option Nat × Option Nat} (h : Pcs w B o n c C) (hn : n ≤ 128) (hc : c ≤ 128) :
    Calls Tryd.prog 18 #[o, .int .i64 1] w fun e w' => e = .returned (.int .i64 (1 + 2 * ((n * c : Nat) : Int))) ∧ Pmk w' B o n c ∧ Below B w w' := by
  obtain ⟨gs, cs, F, X, Y, h1, h2, h3⟩ := h
  refine (markP h1 hn hc).mono ?_
  rintro e w' ⟨rfl, ⟨F', p1, p2⟩, hb⟩
  exact ⟨rfl, ⟨gs, cs, F', p1, p2⟩, hb⟩

theorem pcs_held {w : World} {B n c : Nat} {o : Value} (h : Pmk w B o n c) (hn : n ≤ 128) (hc : c ≤ 128) :
    Calls Tryd.prog 19 #[o, .int .i64 1] w fun e w' => e = .returned (.int .i64 (1 + 2 * ((n * c : Nat) : Int))) ∧ w' = w := by
  obtain ⟨gs, cs, F, h1, h2⟩ := h
  exact heldP h1 h2 hn hc

theorem Pcs.only {w w' w3 : World} {B3 n c m g : Nat} {o x : Value} {L : List Value} {C : Nat → Nat → Option Nat × Option Nat} (h : Pcs w w3.heap.size o n c C) (ho : Only g w w') (hor : x.ownBlock = some g ∨ w' = w) (hx : w3.ownsRow B3 40 2 x m L) : Pcs w' w3.heap.size o n c C := by
  rcases hor with hg | rfl
  · exact h.keep (fun k hk _ => ho.block k (by have := (World.ownsRow.lt hx g hg).2; omega))
  · exact h

set_option maxRecDepth 100000 in
set_option maxHeartbeats 4000000 in
theorem pcs_of {w : World} {v : Value} {n : Nat} {xs ys : Nat → Nat} (p q : Int) (hv : Fp w v n xs ys) (hn : n ≤ 9223372036854775807) (N c : Nat) (hN : N ≤ 128) (hc8 : c ≤ 128) (C : Nat → Nat → Option Nat × Option Nat) (ok : Bool)
    (hs : n ≤ 1048576 → ∀ W u, Fp W u n xs ys → Calls Tryd.prog 15 #[u, .int .i64 p, .int .i64 q] W fun e w' => Ppe W w' e N c C ok)
    (hi : n ≤ 1048576 → ∀ W u, Below w.heap.size w W → Fp W u n xs ys → Calls Tryd.prog 16 #[u, .int .i64 p, .int .i64 q] W fun e w' => Ppe W w' e N c C ok) :
    Calls Tryd.prog 5 #[v, .int .i64 p, .int .i64 q] w fun e w' => e = .returned (.bool true) ∧ Below w.heap.size w w' := by
  have hz := fun W (hb : Below w.heap.size w W) => sz_any (hv.below hb) hn
  have hnot : ∀ (x : Bool) (w : World), (Op.unary .not (.bool x)).run Tryd.prog w = .ok (.bool (!x)) w := fun _ _ => rfl
  by_cases h : n ≤ 1048576
  · rw [if_pos h] at hz
    have FV : Hid (Fp w v n xs ys) := hv
    have HS : Hid (∀ W u, Fp W u n xs ys → Calls Tryd.prog 15 #[u, .int .i64 p, .int .i64 q] W fun e w' => Ppe W w' e N c C ok) := hs h
    have HI : Hid (∀ W u, Below w.heap.size w W → Fp W u n xs ys → Calls Tryd.prog 16 #[u, .int .i64 p, .int .i64 q] W fun e w' => Ppe W w' e N c C ok) := hi h
    obtain ⟨ao, cap, rfl, hcap, hc⟩ := hv
    clear hc hs hi
    go_enter Tryd.func5, Tryd.ntmps5
    go_wp2_with (first
      | (go_at_call 6; refine (hz _ (Below.refl _ _)).mono ?_; rintro e w' ⟨rfl, hw⟩; obtain rfl := hw.symm)
      | (go_at_call 8; (fail_if_success have := M1); refine (copy_own FV.out h).mono ?_; rintro e w1 ⟨hb1, v1, L1, rfl, hf1, _⟩; have M1 : Hid True := trivial; have F1 : Hid (Fp w1 v1 n xs ys) := hf1; have B1 : Hid (Below w.heap.size w _) := hb1; clear hf1 hb1)
      | (go_at_call 15; refine (HS.out _ _ F1.out).mono ?_; rintro e w2 ⟨u0, rfl, hp2, hb2⟩; have M2 : Hid True := trivial; have PW : Hid (Pcs w2 w1.heap.size u0 N c C) := hp2; have B2 : Hid (Below w.heap.size w _) := bstep B1.out hb2; clear hp2 hb2)
      | (go_at_call 8; have Z := M2; (fail_if_success have := M3); refine (copy_own (Fp.below FV.out B2.out) h).mono ?_; rintro e w3 ⟨hb3, x0, L3, rfl, hf3, ho3⟩; have M3 : Hid True := trivial; have FX : Hid (Fp w3 x0 n xs ys) := hf3; have OX : Hid (w3.ownsRow w2.heap.size 40 2 x0 n L3) := ho3; have B3 : Hid (Below w.heap.size w _) := bstep B2.out hb3; have D3 : Hid (Below w2.heap.size w2 _) := hb3; clear hf3 ho3 hb3)
      | (go_at_call 16; have Z := M3; (fail_if_success have := M4); refine (HI.out _ _ B3.out FX.out).mono ?_; rintro e w4 ⟨g0, rfl, ho4, hb4⟩; have M4 : Hid True := trivial; have OG : Hid (Pcs w4 w3.heap.size g0 N c C) := ho4; have FX4 : Hid (Fp _ x0 n xs ys) := Fp.below FX.out hb4; have OX4 : Hid (World.ownsRow _ w2.heap.size 40 2 x0 n L3) := own_below OX.out hb4; have B4 : Hid (Below w.heap.size w _) := bstep B3.out hb4; have D4 : Hid (Below w2.heap.size w2 _) := bstep D3.out hb4; have S4 : Hid (w3.heap.size ≤ _) := hb4.size; clear ho4 hb4)
      | (go_at_call 17; have Z := M4; (fail_if_success have := M5); refine (pcs_eq OG.out (Pcs.call PW.out D4.out) hN hc8).mono ?_; rintro e w5 ⟨rfl, hb5⟩; have M5 : Hid True := trivial; have OG5 : Hid (Pcs _ w3.heap.size g0 N c C) := Pcs.call OG.out hb5; have FX5 : Hid (Fp _ x0 n xs ys) := Fp.below FX4.out hb5; have OX5 : Hid (World.ownsRow _ w2.heap.size 40 2 x0 n L3) := own_below OX4.out hb5; have B5 : Hid (Below w.heap.size w _) := bstep B4.out hb5; have D5 : Hid (Below w2.heap.size w2 _) := bstep D4.out hb5; have S5 : Hid (w3.heap.size ≤ _) := Nat.le_trans S4.out hb5.size; clear hb5)
      | (go_at_call 8; have Z := M5; (fail_if_success have := M6); refine (copy_own (Fp.below FV.out B5.out) h).mono ?_; rintro e w6 ⟨hb6, y0, L6, rfl, hf6, _⟩; have M6 : Hid True := trivial; have FY : Hid (Fp w6 y0 n xs ys) := hf6; have OG6 : Hid (Pcs _ w3.heap.size g0 N c C) := Pcs.call OG5.out hb6; have FX6 : Hid (Fp _ x0 n xs ys) := Fp.below FX5.out hb6; have OX6 : Hid (World.ownsRow _ w2.heap.size 40 2 x0 n L3) := own_below OX5.out hb6; have B6 : Hid (Below w.heap.size w _) := bstep B5.out hb6; have D6 : Hid (Below w2.heap.size w2 _) := bstep D5.out hb6; have S6 : Hid (w3.heap.size ≤ _) := Nat.le_trans S5.out hb6.size; clear hf6 hb6)
      | (go_at_call 10; have Z := M6; (fail_if_success have := M7); refine (eq_yes FX6.out FY.out h (fun j hj => ⟨rfl, rfl⟩)).mono ?_; rintro e w7 ⟨rfl, hb7⟩; have M7 : Hid True := trivial; have OG7 : Hid (Pcs _ w3.heap.size g0 N c C) := Pcs.call OG6.out hb7; have OX7 : Hid (World.ownsRow _ w2.heap.size 40 2 x0 n L3) := own_below OX6.out hb7; have B7 : Hid (Below w.heap.size w _) := bstep B6.out hb7; have D7 : Hid (Below w2.heap.size w2 _) := bstep D6.out hb7; have S7 : Hid (w3.heap.size ≤ _) := Nat.le_trans S6.out hb7.size; clear hb7)
      | (go_at_call 11; have Z := M7; (fail_if_success have := M8); refine (marked (B := w2.heap.size) (n := n) (v := x0) (L := L3) OX7.out D7.out.size h).mono ?_; rintro e w8 ⟨rfl, _, gx, hgx, hor, hon⟩; have M8 : Hid True := trivial; have OG8 : Hid (Pcs _ w3.heap.size g0 N c C) := Pcs.only OG7.out hon hor OX.out; have B8 : Hid (Below w.heap.size w _) := Below.only B7.out hon (Nat.le_trans B2.out.size hgx); have D8 : Hid (Below w2.heap.size w2 _) := Below.only D7.out hon hgx; have S8 : Hid (w3.heap.size ≤ _) := Nat.le_trans S7.out hon.size; clear hon hor hgx)
      | (go_at_call 17; have Z := M8; (fail_if_success have := M9); refine (pcs_eq OG8.out (Pcs.call PW.out D8.out) hN hc8).mono ?_; rintro e w9 ⟨rfl, hb9⟩; have M9 : Hid True := trivial; have OG9 : Hid (Pcs _ w3.heap.size g0 N c C) := Pcs.call OG8.out hb9; have B9 : Hid (Below w.heap.size w _) := bstep B8.out hb9; have D9 : Hid (Below w2.heap.size w2 _) := bstep D8.out hb9; have S9 : Hid (w3.heap.size ≤ _) := Nat.le_trans S8.out hb9.size; clear hb9)
      | (go_at_call 18; have Z := M9; (fail_if_success have := MA); refine (pcs_mark OG9.out hN hc8).mono ?_; rintro e wA ⟨rfl, hmA, hbA⟩; have MA : Hid True := trivial; have MG : Hid (Pmk wA w3.heap.size g0 N c) := hmA; have BA : Hid (Below w.heap.size w wA) := B9.out.trans (hbA.mono (Nat.le_trans B2.out.size D3.out.size)); have DA : Hid (Below w2.heap.size w2 wA) := D9.out.trans (hbA.mono D3.out.size); clear hbA hmA)
      | (go_at_call 19; have Z := MA; (fail_if_success have := MB); refine (pcs_held MG.out hN hc8).mono ?_; rintro e w' ⟨rfl, hw⟩; obtain rfl := hw.symm; have MB : Hid True := trivial)
      | (go_at_call 8; have Z := MB; (fail_if_success have := MC); refine (copy_own (Fp.below FV.out BA.out) h).mono ?_; rintro e wC ⟨hbC, vC, LC, rfl, hfC, _⟩; have MC : Hid True := trivial; have FC : Hid (Fp wC vC n xs ys) := hfC; have MGC : Hid (Pmk _ w3.heap.size g0 N c) := Pmk.call MG.out hbC; have BC : Hid (Below w.heap.size w _) := bstep BA.out hbC; have DC : Hid (Below w2.heap.size w2 _) := bstep DA.out hbC; clear hfC hbC)
      | (go_at_call 16; have Z := MC; (fail_if_success have := MD); refine (HI.out _ _ BC.out FC.out).mono ?_; rintro e wD ⟨h0, rfl, hoD, hbD⟩; have MD : Hid True := trivial; have OH : Hid (Pcs wD wC.heap.size h0 N c C) := hoD; have MGD : Hid (Pmk _ w3.heap.size g0 N c) := Pmk.call MGC.out hbD; have BD : Hid (Below w.heap.size w _) := bstep BC.out hbD; have DD : Hid (Below w2.heap.size w2 _) := bstep DC.out hbD; clear hoD hbD)
      | (go_at_call 17; have Z := MD; (fail_if_success have := ME); refine (pcs_eq OH.out (Pcs.call PW.out DD.out) hN hc8).mono ?_; rintro e wE ⟨rfl, hbE⟩; have ME : Hid True := trivial; have MGE : Hid (Pmk _ w3.heap.size g0 N c) := Pmk.call MGD.out hbE; have BE : Hid (Below w.heap.size w _) := bstep BD.out hbE; clear hbE)
      | (go_at_call 19; have Z := ME; (fail_if_success have := MF); refine (pcs_held MGE.out hN hc8).mono ?_; rintro e w' ⟨rfl, hw⟩; obtain rfl := hw.symm; have MF : Hid True := trivial))
    go_ret
    exact ⟨rfl, BE.out⟩
  · rw [if_neg h] at hz
    obtain ⟨ao, cap, rfl, hcap, hc⟩ := hv
    clear hc hs hi
    go_enter Tryd.func5, Tryd.ntmps5
    go_wp2_with (go_at_call 6; refine (hz _ (Below.refl _ _)).mono ?_; rintro e w' ⟨rfl, hw⟩; obtain rfl := hw.symm)
    go_ret
    exact ⟨rfl, Below.refl _ _⟩

theorem walk_pcs {w : World} {v : Value} {n : Nat} {xs ys : Nat → Nat} (hb : Brj w) (hv : Fp w v n xs ys) (hn : n ≤ 9223372036854775807) (p q : Int) : Calls Tryd.prog 5 #[v, .int .i64 p, .int .i64 q] w fun e w' => e = .returned (.bool true) ∧ Below w.heap.size w w' := by
  by_cases hg : GPc n p q
  · obtain ⟨c, rfl⟩ : ∃ c : Nat, p = (c : Int) := ⟨p.toNat, by omega⟩
    obtain ⟨h, rfl⟩ : ∃ h : Nat, q = (h : Int) := ⟨q.toNat, by omega⟩
    obtain ⟨j, hj, hcj⟩ := h8_pow hg.1
    have hc1 : 1 ≤ c ∧ c ≤ 128 := by omega
    exact pcs_of _ _ hv hn (npc n c h) c (Nat.le_trans (npc_le hc1.1) hg.2.2) hc1.2 (pcC j h xs ys) true (fun _ W u hu => sPcs_good hu hg.2.2 hj hcj (by omega)) (fun _ W u hW hu => iPcs_good hu hg.2.2 hj hcj (by omega) (hb.below hW))
  · exact pcs_of _ _ hv hn 0 0 (by omega) (by omega) (fun _ _ => (none, none)) false (fun h W u hu => sPcs_bad hu h hg _) (fun h W u _ hu => iPcs_bad hu h hg _)
end Go.Proofs.YtlcnciibjhcbiaaDoor
