/- Chain: the law. -/
import Derived.Test.YtmjgaocmmmcnfaaCD
namespace Go.Proofs.Ytmjgaocmmmcnfaa
open Go.RowKit

set_option maxRecDepth 20000 in
set_option maxHeartbeats 8000000 in
theorem wch_of {w : World} {lv v : Value} {n N : Nat} {ss : Nat → Se} {xs : Nat → Int} (hl : Il5 w lv n ss) (hv : Il w v N xs) (h0 : n ≤ 1048576) (h1 : N ≤ 1048576) (M : Nat) (hM : M ≤ 1048576) (z : Nat → Int) (ok : Bool)
    (hs : ∀ W l u B, Il5 W l n ss → W.ownsRow B 3 1 u N (ils xs N) → Calls Try.prog 15 #[l, u] W fun e w' => Pch W w' e M z ok)
    (hi : ∀ W l u B, Il5 W l n ss → W.ownsRow B 3 1 u N (ils xs N) → Calls Try.prog 17 #[l, u] W fun e w' => Pch W w' e M z ok) :
    Calls Try.prog 4 #[lv, v] w fun e w' => e = .returned (.bool true) ∧ Below w.heap.size w w' := by
  have HS : Hid (∀ W l u B, Il5 W l n ss → W.ownsRow B 3 1 u N (ils xs N) → Calls Try.prog 15 #[l, u] W fun e w' => Pch W w' e M z ok) := hs
  have HI : Hid (∀ W l u B, Il5 W l n ss → W.ownsRow B 3 1 u N (ils xs N) → Calls Try.prog 17 #[l, u] W fun e w' => Pch W w' e M z ok) := hi
  have FL : Hid (Il5 w lv n ss) := hl
  have FV : Hid (Il w v N xs) := hv
  obtain ⟨lo, lc, rfl, hlc, hc1⟩ := hl
  obtain ⟨ao, cap, rfl, hcap, hc2⟩ := hv
  have hz := sz5_any w lo n lc (by omega)
  rw [if_pos h0] at hz
  clear hc1 hc2 hs hi
  go_enter Try.func4, Try.ntmps4
  go_upto_region 8 with (first
    | (go_at_call 14; (with_reducible refine hz.mono ?_); rintro e w' ⟨rfl, hw⟩; obtain rfl := hw.symm)
    | (go_at_call 16; refine (copy5 FL.out h0).mono ?_; rintro e w1 ⟨hb, a1, rfl, ho⟩; have O1 : Hid (w1.ownsRow w.heap.size 30 5 a1 n (ils (zs ss) (n * 5))) := ho; have B1 : Hid (Below w.heap.size w w1) := hb; clear hb ho)
    | (go_at_call 8; refine (copy_own (FV.out.below B1.out) h1).mono ?_; rintro e w2 ⟨hb, a2, rfl, _, ho⟩; have O2 : Hid (w2.ownsRow w1.heap.size 3 1 a2 N (ils xs N)) := ho; have B2 : Hid (Below w1.heap.size w1 w2) := hb; clear hb ho)
    | (go_at_call 15; refine (HS.out _ _ _ _ ((il5_of_own O1.out).below B2.out) O2.out).mono ?_; rintro e V0 ⟨u0, rfl, ho, hb⟩; have FW : Hid (Il V0 u0 M z) := il_of_own ho; have BC : Hid (Below w.heap.size w V0) := bstep (bstep B1.out B2.out) hb; clear hb ho))
  clear O1 B1 O2 B2 hz
  go_upto_region 11 with (first
    | (go_at_call 16; refine (copy5 (FL.out.below BC.out) h0).mono ?_; rintro e w4 ⟨hb, x0, rfl, ho⟩; have O4 : Hid (w4.ownsRow V0.heap.size 30 5 x0 n (ils (zs ss) (n * 5))) := ho; have B4 : Hid (Below V0.heap.size V0 w4) := hb; clear hb ho)
    | (go_at_call 8; refine (copy_own ((FV.out.below BC.out).below B4.out) h1).mono ?_; rintro e V ⟨hb, x1, rfl, _, ho⟩; have X1 : Hid (V.ownsRow w4.heap.size 3 1 x1 N (ils xs N)) := ho; have B5 : Hid (Below w4.heap.size w4 V) := hb; clear hb ho)
    | (go_at_call 17; refine (HI.out _ _ _ _ ((il5_of_own O4.out).below B5.out) X1.out).mono ?_; rintro e w6 ⟨g0, rfl, ho, hb⟩; have T0 : Hid (Tc V0 V w6 g0 M z) := ⟨bstep (bstep B4.out B5.out) hb, ho, hb.size, (bstep B4.out B5.out).size⟩; have OX0 : Hid (w6.ownsRow w4.heap.size 3 1 x1 N (ils xs N)) := own_below X1.out hb; have OS0 : Hid (w6.ownsRow V0.heap.size 30 5 x0 n (ils (zs ss) (n * 5))) := own_below (own_below O4.out B5.out) hb; clear hb ho))
  have XL : Hid (∀ g, x1.ownBlock = some g → w4.heap.size ≤ g ∧ g < V.heap.size) := fun g hg => World.ownsRow.lt X1.out g hg
  have SL : Hid (∀ g, x0.ownBlock = some g → V0.heap.size ≤ g ∧ g < w4.heap.size) := fun g hg => World.ownsRow.lt O4.out g hg
  have L4 : Hid (V0.heap.size ≤ w4.heap.size ∧ w4.heap.size ≤ V.heap.size) := ⟨B4.out.size, B5.out.size⟩
  clear O4 X1 B4 B5
  go_upto_region 30 with (first
    | (go_at_call 10; (fail_if_success have := M1); refine (eq_yes (il_of_own T0.out.og) (FW.out.below T0.out.b0) hM).mono ?_; rintro e W1 ⟨rfl, hb⟩; have M1 : Hid True := trivial; have T1 : Hid (Tc V0 V W1 g0 M z) := T0.out.below hb; have OX1 : Hid (W1.ownsRow w4.heap.size 3 1 x1 N (ils xs N)) := own_below OX0.out hb; have OS1 : Hid (W1.ownsRow V0.heap.size 30 5 x0 n (ils (zs ss) (n * 5))) := own_below OS0.out hb; clear hb)
    | (go_at_call 16; have Z := M1; (fail_if_success have := M2); refine (copy5 ((FL.out.below BC.out).below T1.out.b0) h0).mono ?_; rintro e W2 ⟨hb, y0, rfl, ho⟩; have M2 : Hid True := trivial; have T2 : Hid (Tc V0 V W2 g0 M z) := T1.out.below hb; have OX2 : Hid (W2.ownsRow w4.heap.size 3 1 x1 N (ils xs N)) := own_below OX1.out hb; have OS2 : Hid (W2.ownsRow V0.heap.size 30 5 x0 n (ils (zs ss) (n * 5))) := own_below OS1.out hb; have OY2 : Hid (Il5 W2 y0 n ss) := il5_of_own ho; clear hb ho)
    | (go_at_call 18; have Z := M2; refine (eq5_yes (il5_of_own OS2.out) OY2.out h0).mono ?_; rintro e W3 ⟨rfl, hb⟩; have M3 : Hid True := trivial; have T3 : Hid (Tc V0 V W3 g0 M z) := T2.out.below hb; have OX3 : Hid (W3.ownsRow w4.heap.size 3 1 x1 N (ils xs N)) := own_below OX2.out hb; have OS3 : Hid (W3.ownsRow V0.heap.size 30 5 x0 n (ils (zs ss) (n * 5))) := own_below OS2.out hb; clear hb)
    | (go_at_call 8; have Z := M3; (fail_if_success have := M4); refine (copy_own ((FV.out.below BC.out).below T3.out.b0) h1).mono ?_; rintro e W4 ⟨hb, y1, rfl, hf, _⟩; have M4 : Hid True := trivial; have T4 : Hid (Tc V0 V W4 g0 M z) := T3.out.below hb; have OX4 : Hid (W4.ownsRow w4.heap.size 3 1 x1 N (ils xs N)) := own_below OX3.out hb; have OS4 : Hid (W4.ownsRow V0.heap.size 30 5 x0 n (ils (zs ss) (n * 5))) := own_below OS3.out hb; have OY4 : Hid (Il W4 y1 N xs) := hf; clear hb hf)
    | (go_at_call 10; have Z := M4; (fail_if_success have := M5); refine (eq_yes (il_of_own OX4.out) OY4.out h1).mono ?_; rintro e W5 ⟨rfl, hb⟩; have M5 : Hid True := trivial; have T5 : Hid (Tc V0 V W5 g0 M z) := T4.out.below hb; have OX5 : Hid (W5.ownsRow w4.heap.size 3 1 x1 N (ils xs N)) := own_below OX4.out hb; have OS5 : Hid (W5.ownsRow V0.heap.size 30 5 x0 n (ils (zs ss) (n * 5))) := own_below OS4.out hb; clear hb)
    | (go_at_call 19; have Z := M5; refine (marked5 (K := 1) OS5.out T5.out.b0.size h0 (by omega)).mono ?_; rintro e W6 ⟨rfl, gx, hg, hor, hon⟩; have M6 : Hid True := trivial; have T6 : Hid (Tc V0 V W6 g0 M z) := (by rcases hor with hor | rfl; exact T5.out.onlyx hon hg (Nat.lt_of_lt_of_le (SL.out gx hor).2 L4.out.2); exact T5.out); have OX6 : Hid (W6.ownsRow w4.heap.size 3 1 x1 N (ils xs N)) := (by rcases hor with hor | rfl; exact own_onlyB OX5.out hon (SL.out gx hor).2; exact OX5.out); clear hg hor hon)
    | (go_at_call 12; have Z := M6; (fail_if_success have := M7); refine (markedF (K := 1 + 5 * (n : Int)) (B := w4.heap.size) (n := N) (v := x1) (f := xs) OX6.out (Nat.le_trans L4.out.2 T6.out.sz) h1 (by omega)).mono ?_; rintro e W7 ⟨rfl, _, gx, hg, hor, hon⟩; have M7 : Hid True := trivial; have T7 : Hid (Tc V0 V W7 g0 M z) := (by rcases hor with hor | rfl; exact T6.out.onlyx hon (Nat.le_trans L4.out.1 hg) (XL.out gx hor).2; exact T6.out); clear hg hor hon)
    | (go_at_call 10; have Z := M7; (fail_if_success have := M8); refine (eq_yes (il_of_own T7.out.og) (FW.out.below T7.out.b0) hM).mono ?_; rintro e W8 ⟨rfl, hb⟩; have M8 : Hid True := trivial; have T8 : Hid (Tc V0 V W8 g0 M z) := T7.out.below hb; clear hb)
    | (go_at_call 12; have Z := M8; (fail_if_success have := M9); refine (markedF (K := 1) (B := V.heap.size) (n := M) (v := g0) (f := z) T8.out.og T8.out.sz hM (by omega)).mono ?_; rintro e W9 ⟨rfl, hmk, gx, hg, hor, hon⟩; have M9 : Hid True := trivial; have T9 : Hid (Tc V0 V W9 g0 M (mkF 1)) := T8.out.onlyg hon hg hmk; clear hg hor hon hmk)
    | (go_at_call 13; have Z := M9; refine (heldF (K := 1) T9.out.og hM (by omega)).mono ?_; rintro e w' ⟨rfl, hw⟩; obtain rfl := hw.symm))
  clear T0 T1 T2 T3 T4 T5 T6 T7 T8 OX0 OX1 OX2 OX3 OX4 OX5 OX6 OS0 OS1 OS2 OS3 OS4 OS5 OY2 OY4 XL SL L4
  go_wp2_with (first
    | (go_at_call 16; refine (copy5 ((FL.out.below BC.out).below T9.out.b0) h0).mono ?_; rintro e X1 ⟨hb, p0, rfl, ho⟩; have P1 : Hid (X1.ownsRow W9.heap.size 30 5 p0 n (ils (zs ss) (n * 5))) := ho; have T10 : Hid (Tc V0 V X1 g0 M (mkF 1)) := T9.out.below hb; clear hb ho)
    | (go_at_call 8; refine (copy_own ((FV.out.below BC.out).below T10.out.b0) h1).mono ?_; rintro e X2 ⟨hb, p1, rfl, _, ho⟩; have Q2 : Hid (X2.ownsRow X1.heap.size 3 1 p1 N (ils xs N)) := ho; have P2 : Hid (Il5 X2 p0 n ss) := (il5_of_own P1.out).below hb; have T11 : Hid (Tc V0 V X2 g0 M (mkF 1)) := T10.out.below hb; clear hb ho)
    | (go_at_call 17; refine (HI.out _ _ _ _ P2.out Q2.out).mono ?_; rintro e X3 ⟨r0, rfl, ho, hb⟩; have R3 : Hid (Il X3 r0 M z) := il_of_own ho; have T12 : Hid (Tc V0 V X3 g0 M (mkF 1)) := T11.out.below hb; clear hb ho)
    | (go_at_call 10; refine (eq_yes R3.out (FW.out.below T12.out.b0) hM).mono ?_; rintro e X4 ⟨rfl, hb⟩; have T13 : Hid (Tc V0 V X4 g0 M (mkF 1)) := T12.out.below hb; clear hb)
    | (go_at_call 13; refine (heldF (K := 1) T13.out.og hM (by omega)).mono ?_; rintro e w' ⟨rfl, hw⟩; obtain rfl := hw.symm))
  go_ret
  exact ⟨rfl, BC.out.trans (T13.out.b0.mono BC.out.size)⟩

theorem wch_big {w : World} {lv v : Value} {n N : Nat} {ss : Nat → Se} {xs : Nat → Int} (hl : Il5 w lv n ss) (hv : Il w v N xs) (h0 : n ≤ 9223372036854775807) (h1 : N ≤ 9223372036854775807) (h : 1048576 < N ∨ 1048576 < n) : Calls Try.prog 4 #[lv, v] w fun e w' => e = .returned (.bool true) ∧ Below w.heap.size w w' := by
  obtain ⟨lo, lc, rfl, hlc, hc1⟩ := hl
  obtain ⟨ao, cap, rfl, hcap, hc2⟩ := hv
  have hz := sz5_any w lo n lc h0
  clear hc1 hc2
  by_cases h2 : 1048576 < N
  · clear hz h
    go_enter Try.func4, Try.ntmps4
    go_wp2
    go_ret
    exact ⟨rfl, Below.refl _ _⟩
  · rw [if_neg (by omega)] at hz
    clear h
    go_enter Try.func4, Try.ntmps4
    go_wp2_with (go_at_call 14; (with_reducible refine hz.mono ?_); rintro e w' ⟨rfl, hw⟩; obtain rfl := hw.symm)
    go_ret
    exact ⟨rfl, Below.refl _ _⟩

theorem walk_chain {w : World} {lv v : Value} {n N : Nat} {ss : Nat → Se} {xs : Nat → Int} (hl : Il5 w lv n ss) (hv : Il w v N xs) (h0 : n ≤ 9223372036854775807) (h1 : N ≤ 9223372036854775807) : Calls Try.prog 4 #[lv, v] w fun e w' => e = .returned (.bool true) ∧ Below w.heap.size w w' := by
  by_cases hb : 1048576 < N ∨ 1048576 < n
  · exact wch_big hl hv h0 h1 hb
  · have h2 : n ≤ 1048576 := by omega
    have h3 : N ≤ 1048576 := by omega
    by_cases h : GC ss n N xs
    · exact wch_of hl hv h2 h3 N h3 _ true (fun W l u B h4 h5 => sChain_good h4 h5 h) (fun W l u B h4 h5 => iChain_good h4 h5 h)
    · exact wch_of hl hv h2 h3 0 (by omega) xs false (fun W l u B h4 h5 => sChain_bad h4 h5 h3 h2 h) (fun W l u B h4 h5 => iChain_bad h4 h5 h3 h2 h xs)
end Go.Proofs.Ytmjgaocmmmcnfaa
