/- Fast: the model's, and the law's walk. -/
import Derived.Test.YtlcnciibjhcbiaaDoorPF
namespace Go.Proofs.YtlcnciibjhcbiaaDoor
open Go.RowKit

theorem sHalves_one {w : World} {v : Value} {n : Nat} {bk : Bool} {X Y : Nat → Nat} {P : Nat → Option Nat × Option Nat} (hn : n = 1) (hv : Fp w v n X Y) (hP : ∀ k, k < n → (cn (X k), cn (Y k)) = P k) (s : Int) :
    Calls Tryd.prog 36 #[v, .int .i64 s] w fun e w' => ∃ u X' Y', e = .returned u ∧ Fp w' u n X' Y' ∧ (∀ k, k < n → (cn (X' k), cn (Y' k)) = fast bk 0 P k) ∧ Below w.heap.size w w' := by
  obtain ⟨ao, cap, rfl, hcap, hc⟩ := hv
  obtain ⟨b, off, rfl, hlt, hcell⟩ := hc (by omega)
  obtain ⟨c0, c1⟩ := hcell 0 (by omega)
  have HP : Hid (∀ k, k < n → (cn (X k), cn (Y k)) = P k) := hP
  have hST := rStore
  rw [Nat.zero_mul, Nat.add_zero] at c0 c1
  have F1 : Hid (Fp (w.alloc (.cells #[.float .f64 (X 0), .float .f64 (Y 0)] 40)) (.slice (some ⟨w.heap.size, 0, none⟩) 1 1) 1 (fun _ => X 0) (fun _ => Y 0)) := ⟨_, 1, rfl, Nat.le_refl _, fun _ => ⟨w.heap.size, 0, rfl, by simp, fun k hk => (by
    obtain rfl : k = 0 := by omega
    simp)⟩⟩
  have B1 : Hid (Below w.heap.size w (w.alloc (.cells #[.float .f64 (X 0), .float .f64 (Y 0)] 40))) := below_one _ _
  subst hn
  clear hc hcell hP
  go_enter Tryd.func36, Tryd.ntmps36
  go_wp2
  go_ret
  exact ⟨_, fun _ => X 0, fun _ => Y 0, rfl, F1.out, fun k hk => by
    obtain rfl : k = 0 := by omega
    exact HP.out 0 (by omega), B1.out⟩

theorem sHalves_any : ∀ (j : Nat), j < 8 → ∀ (n : Nat), n = 2 ^ j → ∀ (bk : Bool) (w : World) (v : Value) (X Y : Nat → Nat) (P : Nat → Option Nat × Option Nat), Fp w v n X Y → (∀ k, k < n → (cn (X k), cn (Y k)) = P k) →
    Calls Tryd.prog 36 #[v, .int .i64 (sgn bk)] w fun e w' => ∃ u X' Y', e = .returned u ∧ Fp w' u n X' Y' ∧ (∀ k, k < n → (cn (X' k), cn (Y' k)) = fast bk j P k) ∧ Below w.heap.size w w'
  | 0, _, _, hn, _, _, _, _, _, _, hv, hP => sHalves_one hn hv hP _
  | j + 1, hj, _, hn, bk, _, _, _, _, _, hv, hP =>
    sHalves_step (h := 2 ^ j) hj rfl hn hv hP (fun w v X Y P hv hP => sHalves_any j (by omega) (2 ^ j) rfl bk w v X Y P hv hP)

theorem sFast_bad {w : World} {v : Value} {n : Nat} {xs ys : Nat → Nat} (hv : Fp w v n xs ys) (h8 : ¬ H8 (n : Int)) (bk : Bool) (C : Nat → Option Nat × Option Nat) : Calls Tryd.prog 13 #[v, .bool bk] w fun e w' => Pg w w' e 0 C false := by
  have i1 := sH8_any n
  rw [decide_eq_false h8] at i1
  have HB : Hid (Below w.heap.size w (w.alloc (.cells #[] 40))) := below_one _ _
  have hnot : ∀ (x : Bool) (w : World), (Op.unary .not (.bool x)).run Tryd.prog w = .ok (.bool (!x)) w := fun _ _ => rfl
  obtain ⟨ao, cap, rfl, hcap, hc⟩ := hv
  clear hc h8
  go_enter Tryd.func13, Tryd.ntmps13
  go_wp2_with (go_at_call 20; refine (i1 _).mono ?_; rintro e w' ⟨rfl, hw⟩; obtain rfl := hw.symm)
  go_ret2
  exact ⟨_, fun _ => 0, fun _ => 0, rfl, ⟨_, _, rfl, Nat.le_refl _, fun h => absurd h (by omega)⟩, fun k hk => by omega, HB.out⟩

set_option maxRecDepth 100000 in
set_option maxHeartbeats 2000000 in
theorem sFast_good {w : World} {v : Value} {n j : Nat} {xs ys : Nat → Nat} (hv : Fp w v n xs ys) (hj : j < 8) (hn : n = 2 ^ j) (bk : Bool) : Calls Tryd.prog 13 #[v, .bool bk] w fun e w' => Pg w w' e n (fun k => fby n bk (fast bk j (fun i => (cn (xs i), cn (ys i))) k)) true := by
  have h8 := pow_cases hj hn
  have i1 := sH8_any n
  rw [decide_eq_true (show H8 (n : Int) by omega)] at i1
  have i2 := sSgn_any bk
  have i3 := sHalves_any j hj n hn bk w v xs ys (fun i => (cn (xs i), cn (ys i))) hv (fun k _ => rfl)
  have HBY : Hid (∀ W u X Y, Fp W u n X Y → (∀ q, q < n → (cn (X q), cn (Y q)) = fast bk j (fun i => (cn (xs i), cn (ys i))) q) → Calls Tryd.prog 25 #[u, .bool bk] W fun e w' => ∃ u' X Y, e = .returned u' ∧ Fp w' u' n X Y ∧ (∀ q, q < n → (cn (X q), cn (Y q)) = fby n bk (fast bk j (fun i => (cn (xs i), cn (ys i))) q)) ∧ Below W.heap.size W w') := by
    intro W u X Y hf hx
    cases bk
    · refine (sBy_no u W).mono ?_
      rintro e w' ⟨rfl, rfl⟩
      exact ⟨u, X, Y, rfl, hf, hx, Below.refl _ _⟩
    · refine (sBy_any hf (by omega)).mono ?_
      rintro e w' ⟨u', X', Y', rfl, hf', hx', hb⟩
      refine ⟨u', X', Y', rfl, hf', fun q hq => ?_, hb⟩
      obtain ⟨p1, p2⟩ := Prod.mk.inj (hx q hq)
      rw [(hx' q hq).1, (hx' q hq).2, p1, p2]
      rfl
  have hnot : ∀ (x : Bool) (w : World), (Op.unary .not (.bool x)).run Tryd.prog w = .ok (.bool (!x)) w := fun _ _ => rfl
  have hn128 : n ≤ 128 := by omega
  obtain ⟨ao, cap, rfl, hcap, hc⟩ := hv
  clear hc hn h8 hj
  generalize sgn bk = sg at *
  go_enter Tryd.func13, Tryd.ntmps13
  go_wp2_with (first
    | (go_at_call 20; refine (i1 _).mono ?_; rintro e w' ⟨rfl, hw⟩; obtain rfl := hw.symm)
    | (go_at_call 24; refine (i2 _).mono ?_; rintro e w' ⟨rfl, hw⟩; obtain rfl := hw.symm)
    | (go_at_call 36; (with_reducible refine i3.mono ?_); rintro e w2 ⟨u2, X2, Y2, rfl, f2, v2, b2⟩; have j3 := HBY.out w2 u2 X2 Y2 f2 v2; have B2 : Hid (Below w.heap.size w w2) := b2; clear f2 v2 b2 i3)
    | (go_at_call 25; (with_reducible refine j3.mono ?_); rintro e w3 ⟨u3, X3, Y3, rfl, f3, v3, b3⟩; have F3 : Hid (Fp w3 u3 n X3 Y3) := f3; have V3 : Hid (∀ q, q < n → (cn (X3 q), cn (Y3 q)) = fby n bk (fast bk j (fun i => (cn (xs i), cn (ys i))) q)) := v3; have B3 : Hid (Below w.heap.size w w3) := bstep B2.out b3; obtain ⟨ua, uc, rfl, _⟩ := f3; clear v3 b3 j3))
  go_ret2
  exact ⟨_, X3, Y3, rfl, F3.out, V3.out, B3.out⟩

set_option maxRecDepth 100000 in
set_option maxHeartbeats 4000000 in
theorem fast_of {w : World} {v : Value} {n : Nat} {xs ys : Nat → Nat} (bk : Bool) (hv : Fp w v n xs ys) (hn : n ≤ 9223372036854775807) (N : Nat) (hN : N ≤ 128) (C : Nat → Option Nat × Option Nat) (ok : Bool)
    (hs : n ≤ 1048576 → ∀ W u, Fp W u n xs ys → Calls Tryd.prog 13 #[u, .bool bk] W fun e w' => Pg W w' e N C ok)
    (hi : n ≤ 1048576 → ∀ W u, Below w.heap.size w W → Fp W u n xs ys → Calls Tryd.prog 14 #[u, .bool bk] W fun e w' => Pe W w' e N C ok) :
    Calls Tryd.prog 4 #[v, .bool bk] w fun e w' => e = .returned (.bool true) ∧ Below w.heap.size w w' := by
  have hz := fun W (hb : Below w.heap.size w W) => sz_any (hv.below hb) hn
  have hnot : ∀ (x : Bool) (w : World), (Op.unary .not (.bool x)).run Tryd.prog w = .ok (.bool (!x)) w := fun _ _ => rfl
  by_cases h : n ≤ 1048576
  · rw [if_pos h] at hz
    have FV : Hid (Fp w v n xs ys) := hv
    have HS : Hid (∀ W u, Fp W u n xs ys → Calls Tryd.prog 13 #[u, .bool bk] W fun e w' => Pg W w' e N C ok) := hs h
    have HI : Hid (∀ W u, Below w.heap.size w W → Fp W u n xs ys → Calls Tryd.prog 14 #[u, .bool bk] W fun e w' => Pe W w' e N C ok) := hi h
    obtain ⟨ao, cap, rfl, hcap, hc⟩ := hv
    clear hc hs hi
    go_enter Tryd.func4, Tryd.ntmps4
    go_wp2_with (first
      | (go_at_call 6; refine (hz _ (Below.refl _ _)).mono ?_; rintro e w' ⟨rfl, hw⟩; obtain rfl := hw.symm)
      | (go_at_call 8; (fail_if_success have := M1); refine (copy_own FV.out h).mono ?_; rintro e w1 ⟨hb1, v1, L1, rfl, hf1, _⟩; have M1 : Hid True := trivial; have F1 : Hid (Fp w1 v1 n xs ys) := hf1; have B1 : Hid (Below w.heap.size w _) := hb1; clear hf1 hb1)
      | (go_at_call 13; refine (HS.out _ _ F1.out).mono ?_; rintro e w2 ⟨u0, X0, Y0, rfl, hf2, hc2, hb2⟩; have M2 : Hid True := trivial; have FW : Hid (Fp w2 u0 N X0 Y0) := hf2; have CW : Hid (∀ k, k < N → (cn (X0 k), cn (Y0 k)) = C k) := hc2; have B2 : Hid (Below w.heap.size w _) := bstep B1.out hb2; clear hf2 hc2 hb2)
      | (go_at_call 8; have Z := M2; (fail_if_success have := M3); refine (copy_own (Fp.below FV.out B2.out) h).mono ?_; rintro e w3 ⟨hb3, x0, L3, rfl, hf3, ho3⟩; have M3 : Hid True := trivial; have FX : Hid (Fp w3 x0 n xs ys) := hf3; have OX : Hid (w3.ownsRow w2.heap.size 40 2 x0 n L3) := ho3; have B3 : Hid (Below w.heap.size w _) := bstep B2.out hb3; have D3 : Hid (Below w2.heap.size w2 _) := hb3; clear hf3 ho3 hb3)
      | (go_at_call 14; have Z := M3; (fail_if_success have := M4); refine (HI.out _ _ B3.out FX.out).mono ?_; rintro e w4 ⟨g0, X4, Y4, rfl, ho4, hc4, hb4⟩; have M4 : Hid True := trivial; have OG : Hid (w4.ownsRow w3.heap.size 40 2 g0 N (cl2 X4 Y4 N)) := ho4; have CG : Hid (∀ k, k < N → (cn (X4 k), cn (Y4 k)) = C k) := hc4; have FX4 : Hid (Fp _ x0 n xs ys) := Fp.below FX.out hb4; have OX4 : Hid (World.ownsRow _ w2.heap.size 40 2 x0 n L3) := own_below OX.out hb4; have B4 : Hid (Below w.heap.size w _) := bstep B3.out hb4; have D4 : Hid (Below w2.heap.size w2 _) := bstep D3.out hb4; have S4 : Hid (w3.heap.size ≤ _) := hb4.size; clear ho4 hc4 hb4)
      | (go_at_call 10; have Z := M4; (fail_if_success have := M5); refine (eq_yes (fp_of_own OG.out) (Fp.below FW.out D4.out) (by omega) (fun j hj => Prod.mk.inj ((CG.out j hj).trans (CW.out j hj).symm))).mono ?_; rintro e w5 ⟨rfl, hb5⟩; have M5 : Hid True := trivial; have OG5 : Hid (World.ownsRow _ w3.heap.size 40 2 g0 N (cl2 X4 Y4 N)) := own_below OG.out hb5; have FX5 : Hid (Fp _ x0 n xs ys) := Fp.below FX4.out hb5; have OX5 : Hid (World.ownsRow _ w2.heap.size 40 2 x0 n L3) := own_below OX4.out hb5; have B5 : Hid (Below w.heap.size w _) := bstep B4.out hb5; have D5 : Hid (Below w2.heap.size w2 _) := bstep D4.out hb5; have S5 : Hid (w3.heap.size ≤ _) := Nat.le_trans S4.out hb5.size; clear hb5)
      | (go_at_call 8; have Z := M5; (fail_if_success have := M6); refine (copy_own (Fp.below FV.out B5.out) h).mono ?_; rintro e w6 ⟨hb6, y0, L6, rfl, hf6, _⟩; have M6 : Hid True := trivial; have FY : Hid (Fp w6 y0 n xs ys) := hf6; have OG6 : Hid (World.ownsRow _ w3.heap.size 40 2 g0 N (cl2 X4 Y4 N)) := own_below OG5.out hb6; have FX6 : Hid (Fp _ x0 n xs ys) := Fp.below FX5.out hb6; have OX6 : Hid (World.ownsRow _ w2.heap.size 40 2 x0 n L3) := own_below OX5.out hb6; have B6 : Hid (Below w.heap.size w _) := bstep B5.out hb6; have D6 : Hid (Below w2.heap.size w2 _) := bstep D5.out hb6; have S6 : Hid (w3.heap.size ≤ _) := Nat.le_trans S5.out hb6.size; clear hf6 hb6)
      | (go_at_call 10; have Z := M6; (fail_if_success have := M7); refine (eq_yes FX6.out FY.out h (fun j hj => ⟨rfl, rfl⟩)).mono ?_; rintro e w7 ⟨rfl, hb7⟩; have M7 : Hid True := trivial; have OG7 : Hid (World.ownsRow _ w3.heap.size 40 2 g0 N (cl2 X4 Y4 N)) := own_below OG6.out hb7; have OX7 : Hid (World.ownsRow _ w2.heap.size 40 2 x0 n L3) := own_below OX6.out hb7; have B7 : Hid (Below w.heap.size w _) := bstep B6.out hb7; have D7 : Hid (Below w2.heap.size w2 _) := bstep D6.out hb7; have S7 : Hid (w3.heap.size ≤ _) := Nat.le_trans S6.out hb7.size; clear hb7)
      | (go_at_call 11; have Z := M7; (fail_if_success have := M8); refine (marked (B := w2.heap.size) (n := n) (v := x0) (L := L3) OX7.out D7.out.size h).mono ?_; rintro e w8 ⟨rfl, _, gx, hgx, hor, hon⟩; have M8 : Hid True := trivial; have OG8 : Hid (World.ownsRow _ w3.heap.size 40 2 g0 N (cl2 X4 Y4 N)) := own_only' (w3 := w3) (e := 40) (s := 2) (v := g0) (n := N) (xs := cl2 X4 Y4 N) (x := x0) (m := n) (L := L3) (B3 := w2.heap.size) OG7.out hon hor OX.out; have B8 : Hid (Below w.heap.size w _) := Below.only B7.out hon (Nat.le_trans B2.out.size hgx); have D8 : Hid (Below w2.heap.size w2 _) := Below.only D7.out hon hgx; have S8 : Hid (w3.heap.size ≤ _) := Nat.le_trans S7.out hon.size; clear hon hor hgx)
      | (go_at_call 10; have Z := M8; (fail_if_success have := M9); refine (eq_yes (fp_of_own OG8.out) (Fp.below FW.out D8.out) (by omega) (fun j hj => Prod.mk.inj ((CG.out j hj).trans (CW.out j hj).symm))).mono ?_; rintro e w9 ⟨rfl, hb9⟩; have M9 : Hid True := trivial; have OG9 : Hid (World.ownsRow _ w3.heap.size 40 2 g0 N (cl2 X4 Y4 N)) := own_below OG8.out hb9; have B9 : Hid (Below w.heap.size w _) := bstep B8.out hb9; have D9 : Hid (Below w2.heap.size w2 _) := bstep D8.out hb9; have S9 : Hid (w3.heap.size ≤ _) := Nat.le_trans S8.out hb9.size; clear hb9)
      | (go_at_call 11; have Z := M9; (fail_if_success have := MA); refine (marked (B := w3.heap.size) (n := N) (v := g0) (L := cl2 X4 Y4 N) OG9.out S9.out (by omega)).mono ?_; rintro e wA ⟨rfl, hmA, gg, hgg, _, hon⟩; have MA : Hid True := trivial; have MG : Hid (Marked wA w3.heap.size g0 N) := hmA; have BA : Hid (Below w.heap.size w _) := Below.only B9.out hon (Nat.le_trans B3.out.size hgg); have DA : Hid (Below w2.heap.size w2 _) := Below.only D9.out hon (Nat.le_trans D3.out.size hgg); clear hon hgg hmA)
      | (go_at_call 12; have Z := MA; (fail_if_success have := MB); refine (held MG.out (by omega)).mono ?_; rintro e w' ⟨rfl, hw⟩; obtain rfl := hw.symm; have MB : Hid True := trivial)
      | (go_at_call 8; have Z := MB; (fail_if_success have := MC); refine (copy_own (Fp.below FV.out BA.out) h).mono ?_; rintro e wC ⟨hbC, vC, LC, rfl, hfC, _⟩; have MC : Hid True := trivial; have FC : Hid (Fp wC vC n xs ys) := hfC; have MGC : Hid (Marked _ w3.heap.size g0 N) := Marked.below MG.out hbC; have BC : Hid (Below w.heap.size w _) := bstep BA.out hbC; have DC : Hid (Below w2.heap.size w2 _) := bstep DA.out hbC; clear hfC hbC)
      | (go_at_call 14; have Z := MC; (fail_if_success have := MD); refine (HI.out _ _ BC.out FC.out).mono ?_; rintro e wD ⟨h0, XD, YD, rfl, hoD, hcD, hbD⟩; have MD : Hid True := trivial; have OH : Hid (wD.ownsRow wC.heap.size 40 2 h0 N (cl2 XD YD N)) := hoD; have CH : Hid (∀ k, k < N → (cn (XD k), cn (YD k)) = C k) := hcD; have MGD : Hid (Marked _ w3.heap.size g0 N) := Marked.below MGC.out hbD; have BD : Hid (Below w.heap.size w _) := bstep BC.out hbD; have DD : Hid (Below w2.heap.size w2 _) := bstep DC.out hbD; clear hoD hcD hbD)
      | (go_at_call 10; have Z := MD; (fail_if_success have := ME); refine (eq_yes (fp_of_own OH.out) (Fp.below FW.out DD.out) (by omega) (fun j hj => Prod.mk.inj ((CH.out j hj).trans (CW.out j hj).symm))).mono ?_; rintro e wE ⟨rfl, hbE⟩; have ME : Hid True := trivial; have MGE : Hid (Marked _ w3.heap.size g0 N) := Marked.below MGD.out hbE; have BE : Hid (Below w.heap.size w _) := bstep BD.out hbE; clear hbE)
      | (go_at_call 12; have Z := ME; (fail_if_success have := MF); refine (held MGE.out (by omega)).mono ?_; rintro e w' ⟨rfl, hw⟩; obtain rfl := hw.symm; have MF : Hid True := trivial))
    go_ret
    exact ⟨rfl, BE.out⟩
  · rw [if_neg h] at hz
    obtain ⟨ao, cap, rfl, hcap, hc⟩ := hv
    clear hc hs hi
    go_enter Tryd.func4, Tryd.ntmps4
    go_wp2_with (go_at_call 6; refine (hz _ (Below.refl _ _)).mono ?_; rintro e w' ⟨rfl, hw⟩; obtain rfl := hw.symm)
    go_ret
    exact ⟨rfl, Below.refl _ _⟩

theorem walk_fast {w : World} {v : Value} {n : Nat} {xs ys : Nat → Nat} (hb : Brj w) (hv : Fp w v n xs ys) (hn : n ≤ 9223372036854775807) (bk : Bool) : Calls Tryd.prog 4 #[v, .bool bk] w fun e w' => e = .returned (.bool true) ∧ Below w.heap.size w w' := by
  by_cases h8 : H8 (n : Int)
  · obtain ⟨j, hj, hnj⟩ := h8_pow h8
    refine fast_of bk hv hn n (by omega) (fun k => fby n bk (fast bk j (fun i => (cn (xs i), cn (ys i))) k)) true (fun _ W u hu => sFast_good hu hj hnj bk) (fun _ W u hW hu => ?_)
    cases bk
    · exact (iFast_f hu hj hnj (hb.below hW)).mono fun e w' h => h.pe (by omega)
    · exact (iFast_t hu hj hnj (hb.below hW)).mono fun e w' h => h.pe (by omega)
  · exact fast_of bk hv hn 0 (by omega) (fun _ => (none, none)) false (fun _ W u hu => sFast_bad hu h8 bk _) (fun _ W u _ hu => iFast_none hu h8 bk _)
end Go.Proofs.YtlcnciibjhcbiaaDoor
