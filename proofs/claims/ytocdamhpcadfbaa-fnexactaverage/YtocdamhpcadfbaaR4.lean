/- Average: the law's walk; rows out of an argument. -/
import Derived.Test.YtocdamhpcadfbaaR3
import Derived.Test.YtocdamhpcadfbaaO1
namespace Go.Proofs.Ytocdamhpcadfbaa
open Go.ChangeShapes Go.WideShapes Go.ChangeAt Go.WideMaps Go.WideElems Go.RowKit

/-- What the reading of rows of pairs gives the walk. -/
theorem fpp_of {H : Type} {enc : TypeId × Value → H} {W : World} {base : Nat} {sp : Nat → Bool} {held : Bool} {fuel : Nat} {a : Option Addr} {len cap : Nat} {d : DataW H} {ps : List MemPlace}
    (hf : DataW.trod enc Try.prog W base sp held fuel 33 (Value.slice a len cap).cells.toList = some (d, ps)) : len ≤ 9223372036854775807 ∧ ∃ ms X Y, (∀ k, k < len → ms k ≤ 9223372036854775807) ∧ Fpp W (.slice a len cap) len ms X Y := by
  have hmax : maxLen = 9223372036854775807 := by rfl
  have hc : Try.prog.cellsOf 22 = 1 := by kernel_rfl
  rcases Deep.open_slice1 Try.underlying33 hc hf with ⟨h0, _⟩ | ⟨a', len', cap', m, n, V, D, Pl, hcs, hb, hl, hm, hmm, _, hel⟩
  · simp [Value.cells] at h0
    obtain ⟨rfl, rfl, rfl⟩ := h0
    exact ⟨by omega, fun _ => 0, fun _ _ => 0, fun _ _ => 0, fun k hk => by omega, none, 0, rfl, Nat.le_refl _, fun h => absurd h (by omega)⟩
  · simp [Value.cells] at hcs
    obtain ⟨rfl, rfl, rfl⟩ := hcs
    have hlm : len ≤ m := by rw [hmm]; split <;> omega
    have each : ∀ i, i < len → ∃ q : Nat × (Nat → Nat) × (Nat → Nat), q.1 ≤ 9223372036854775807 ∧ W.cell? (a'.add i) = some (V i) ∧ Fp W (V i) q.1 q.2.1 q.2.2 := by
      intro i hi
      obtain ⟨h1, h2⟩ := hel i (by omega)
      rcases DataW.trod_slice Try.underlying22 h2 with ⟨h3, _⟩ | ⟨a2, l2, c2, _, _, _, _, h3, _⟩
      · have e : V i = .slice none 0 0 := by simpa using h3
        rw [e] at h2
        obtain ⟨g1, xs, ys, g2⟩ := fp_of (a := none) (len := 0) (cap := 0) h2
        exact ⟨(0, xs, ys), g1, h1, by rw [e]; exact g2⟩
      · have e : V i = .slice (some a2) l2 c2 := by simpa using h3
        rw [e] at h2
        obtain ⟨g1, xs, ys, g2⟩ := fp_of (a := some a2) (len := l2) (cap := c2) h2
        exact ⟨(l2, xs, ys), g1, h1, by rw [e]; exact g2⟩
    obtain ⟨q, hq⟩ := Deep.choose_lt each
    obtain ⟨b, off, spot⟩ := a'
    refine ⟨by omega, fun k => (q k).1, fun k => (q k).2.1, fun k => (q k).2.2, fun k hk => (hq k hk).1, some ⟨b, off, spot⟩, cap, rfl, hl, fun h0 => ?_⟩
    have hspot : spot = none := by
      have hx := (hq 0 h0).2.1
      simpa [Addr.add] using World.cell?_spot hx
    subst hspot
    have each' : ∀ i, i < len → W.cell? ⟨b, off + i, none⟩ = some (V i) := by
      intro i hi
      have hx := (hq i hi).2.1
      by_cases h : i = 0
      · subst h; simpa [Addr.add] using hx
      · simpa [Addr.add, h] using hx
    exact ⟨b, off, V, rfl, cell_lt (each' 0 h0), fun k hk => ⟨each' k hk, (hq k hk).2.2⟩⟩

set_option maxRecDepth 20000 in
set_option maxHeartbeats 4000000 in
theorem avg_of {w : World} {v : Value} {n : Nat} {ms : Nat → Nat} {X Y : Nat → Nat → Nat} (hv : Fpp w v n ms X Y) (hn : n ≤ 9223372036854775807) (hms : ∀ k, k < n → ms k ≤ 9223372036854775807) (N : Nat) (hN : N ≤ 1048576) (C : Nat → Option Nat) (ok : Bool)
    (hs : n ≤ 1048576 → (∀ k, k < n → ms k ≤ 1048576) → ∀ W u, Fpp W u n ms X Y → Calls Try.prog 15 #[u] W fun e w' => Pa W w' e N C ok)
    (hi : n ≤ 1048576 → (∀ k, k < n → ms k ≤ 1048576) → ∀ W u, Fpp W u n ms X Y → Calls Try.prog 17 #[u] W fun e w' => Pa W w' e N C ok) :
    Calls Try.prog 4 #[v] w fun e w' => e = .returned (.bool true) ∧ Below w.heap.size w w' := by
  have hz := szS_any hv hn hms
  have FV : Hid (Fpp w v n ms X Y) := hv
  have HS0 : Hid (n ≤ 1048576 → (∀ k, k < n → ms k ≤ 1048576) → ∀ W u, Fpp W u n ms X Y → Calls Try.prog 15 #[u] W fun e w' => Pa W w' e N C ok) := hs
  have HI0 : Hid (n ≤ 1048576 → (∀ k, k < n → ms k ≤ 1048576) → ∀ W u, Fpp W u n ms X Y → Calls Try.prog 17 #[u] W fun e w' => Pa W w' e N C ok) := hi
  obtain ⟨ao, cap, rfl, hcap, hc⟩ := hv
  clear hc hs hi hms
  go_enter Try.func4, Try.ntmps4
  go_upto_region 3 with (first | (go_at_call 14; refine hz.mono ?_; rintro e w' ⟨⟨x, rfl, hx⟩, hw⟩; obtain rfl := hw.symm; have HX : Hid (0 ≤ x → n ≤ 1048576 ∧ ∀ k, k < n → ms k ≤ 1048576) := hx; clear hx))
  clear hz
  by_cases hx0 : x < 0
  · go_wp2
    go_ret
    exact ⟨rfl, Below.refl _ _⟩
  obtain ⟨h, hm⟩ := HX.out (by omega)
  have HM : Hid (∀ k, k < n → ms k ≤ 1048576) := hm
  have HS : Hid (∀ W u, Fpp W u n ms X Y → Calls Try.prog 15 #[u] W fun e w' => Pa W w' e N C ok) := HS0.out h hm
  have HI : Hid (∀ W u, Fpp W u n ms X Y → Calls Try.prog 17 #[u] W fun e w' => Pa W w' e N C ok) := HI0.out h hm
  clear HX hm HS0 HI0
  go_wp2_with (first
      | (go_at_call 16; (fail_if_success have := M1); refine (copyS_own FV.out h HM.out).mono ?_; rintro e w1 ⟨v1, rfl, ho1, hb1⟩; have M1 : Hid True := trivial; have F1 : Hid (Fpp w1 v1 n ms X Y) := ho1.fpp; have B1 : Hid (Below w.heap.size w w1) := hb1; clear ho1 hb1)
      | (go_at_call 15; (fail_if_success have := M2); refine (HS.out _ _ F1.out).mono ?_; rintro e w2 ⟨u0, zs, rfl, ho2, hz2, hb2⟩; have M2 : Hid True := trivial; have FW : Hid (Fl w2 u0 N zs) := fl_of_own ho2; have HZ2 : Hid (∀ k, k < N → cn (zs k) = C k) := hz2; have B2 : Hid (Below w.heap.size w w2) := bstep B1.out hb2; clear ho2 hb2 hz2)
      | (go_at_call 16; have Z := M2; (fail_if_success have := M3); refine (copyS_own (Fpp.below FV.out B2.out) h HM.out).mono ?_; rintro e w3 ⟨x0, rfl, ho3, hb3⟩; have M3 : Hid True := trivial; have OX : Hid (OPP w3 w2.heap.size w3.heap.size x0 n ms X Y) := ho3; have B3 : Hid (Below w.heap.size w w3) := bstep B2.out hb3; have D3 : Hid (Below w2.heap.size w2 w3) := hb3; clear ho3 hb3)
      | (go_at_call 17; have Z := M3; (fail_if_success have := M4); refine (HI.out _ _ OX.out.fpp).mono ?_; rintro e w4 ⟨g0, ts, rfl, ho4, ht4, hb4⟩; have M4 : Hid True := trivial; have OG : Hid (w4.ownsRow w3.heap.size 42 1 g0 N (fls ts N)) := ho4; have HT4 : Hid (∀ k, k < N → cn (ts k) = cn (zs k)) := (fun k hk => (ht4 k hk).trans (HZ2.out k hk).symm); have OX4 : Hid (OPP w4 w2.heap.size w3.heap.size x0 n ms X Y) := OPP.below OX.out hb4; have B4 : Hid (Below w.heap.size w w4) := bstep B3.out hb4; have D4 : Hid (Below w2.heap.size w2 w4) := bstep D3.out hb4; have S4 : Hid (w3.heap.size ≤ w4.heap.size) := hb4.size; clear ho4 hb4 ht4)
      | (go_at_call 9; have Z := M4; (fail_if_success have := M5); refine (eqF_yes (fl_of_own OG.out) (Fl.below FW.out D4.out) hN HT4.out).mono ?_; rintro e w5 ⟨rfl, hb5⟩; have M5 : Hid True := trivial; have OG5 : Hid (w5.ownsRow w3.heap.size 42 1 g0 N (fls ts N)) := own_below OG.out hb5; have OX5 : Hid (OPP w5 w2.heap.size w3.heap.size x0 n ms X Y) := OPP.below OX4.out hb5; have B5 : Hid (Below w.heap.size w w5) := bstep B4.out hb5; have D5 : Hid (Below w2.heap.size w2 w5) := bstep D4.out hb5; have S5 : Hid (w3.heap.size ≤ w5.heap.size) := Nat.le_trans S4.out hb5.size; clear hb5)
      | (go_at_call 16; have Z := M5; (fail_if_success have := M6); refine (copyS_own (Fpp.below FV.out B5.out) h HM.out).mono ?_; rintro e w6 ⟨y0, rfl, ho6, hb6⟩; have M6 : Hid True := trivial; have FY : Hid (Fpp w6 y0 n ms X Y) := ho6.fpp; have OG6 : Hid (w6.ownsRow w3.heap.size 42 1 g0 N (fls ts N)) := own_below OG5.out hb6; have OX6 : Hid (OPP w6 w2.heap.size w3.heap.size x0 n ms X Y) := OPP.below OX5.out hb6; have B6 : Hid (Below w.heap.size w w6) := bstep B5.out hb6; have D6 : Hid (Below w2.heap.size w2 w6) := bstep D5.out hb6; have S6 : Hid (w3.heap.size ≤ w6.heap.size) := Nat.le_trans S5.out hb6.size; clear ho6 hb6)
      | (go_at_call 18; have Z := M6; (fail_if_success have := M7); refine (eqS_yes OX6.out.fpp FY.out h HM.out).mono ?_; rintro e w7 ⟨rfl, hb7⟩; have M7 : Hid True := trivial; have OG7 : Hid (w7.ownsRow w3.heap.size 42 1 g0 N (fls ts N)) := own_below OG6.out hb7; have OX7 : Hid (OPP w7 w2.heap.size w3.heap.size x0 n ms X Y) := OPP.below OX6.out hb7; have B7 : Hid (Below w.heap.size w w7) := bstep B6.out hb7; have D7 : Hid (Below w2.heap.size w2 w7) := bstep D6.out hb7; have S7 : Hid (w3.heap.size ≤ w7.heap.size) := Nat.le_trans S6.out hb7.size; clear hb7)
      | (go_at_call 19; have Z := M7; (fail_if_success have := M8); refine (markS_any OX7.out h HM.out).mono ?_; rintro e w8 ⟨⟨xm, rfl, hxm⟩, hrg⟩; have M8 : Hid True := trivial; have OG8 : Hid (w8.ownsRow w3.heap.size 42 1 g0 N (fls ts N)) := hrg.own OG7.out (Nat.le_refl _); have B8 : Hid (Below w.heap.size w w8) := hrg.below B7.out B2.out.size; have D8 : Hid (Below w2.heap.size w2 w8) := hrg.below D7.out (Nat.le_refl _); have S8 : Hid (w3.heap.size ≤ w8.heap.size) := Nat.le_trans S7.out hrg.size; clear hrg)
      | (go_at_call 9; have Z := M8; (fail_if_success have := M9); refine (eqF_yes (fl_of_own OG8.out) (Fl.below FW.out D8.out) hN HT4.out).mono ?_; rintro e w9 ⟨rfl, hb9⟩; have M9 : Hid True := trivial; have OG9 : Hid (w9.ownsRow w3.heap.size 42 1 g0 N (fls ts N)) := own_below OG8.out hb9; have B9 : Hid (Below w.heap.size w w9) := bstep B8.out hb9; have D9 : Hid (Below w2.heap.size w2 w9) := bstep D8.out hb9; have S9 : Hid (w3.heap.size ≤ w9.heap.size) := Nat.le_trans S8.out hb9.size; clear hb9)
      | (go_at_call 12; have Z := M9; (fail_if_success have := MA); refine (markedF (B := w3.heap.size) (n := N) (v := g0) (f := ts) OG9.out S9.out hN).mono ?_; rintro e wA ⟨rfl, hmA, gg, hgg, _, hon⟩; have MA : Hid True := trivial; have MG : Hid (wA.ownsRow w3.heap.size 42 1 g0 N (fls mkf N)) := hmA; have BA : Hid (Below w.heap.size w wA) := Below.only B9.out hon (Nat.le_trans B3.out.size hgg); have DA : Hid (Below w2.heap.size w2 wA) := Below.only D9.out hon (Nat.le_trans D3.out.size hgg); clear hon hgg hmA)
      | (go_at_call 13; have Z := MA; (fail_if_success have := MB); refine (heldF MG.out hN).mono ?_; rintro e w' ⟨rfl, hw⟩; obtain rfl := hw.symm; have MB : Hid True := trivial)
      | (go_at_call 16; have Z := MB; (fail_if_success have := MC); refine (copyS_own (Fpp.below FV.out BA.out) h HM.out).mono ?_; rintro e wC ⟨vC, rfl, hoC, hbC⟩; have MC : Hid True := trivial; have FC : Hid (Fpp wC vC n ms X Y) := hoC.fpp; have MGC : Hid (wC.ownsRow w3.heap.size 42 1 g0 N (fls mkf N)) := own_below MG.out hbC; have BC : Hid (Below w.heap.size w wC) := bstep BA.out hbC; have DC : Hid (Below w2.heap.size w2 wC) := bstep DA.out hbC; clear hoC hbC)
      | (go_at_call 17; have Z := MC; (fail_if_success have := MD); refine (HI.out _ _ FC.out).mono ?_; rintro e wD ⟨h0, qs, rfl, hoD, hqD, hbD⟩; have MD : Hid True := trivial; have OH : Hid (wD.ownsRow wC.heap.size 42 1 h0 N (fls qs N)) := hoD; have HQ : Hid (∀ k, k < N → cn (qs k) = cn (zs k)) := (fun k hk => (hqD k hk).trans (HZ2.out k hk).symm); have MGD : Hid (wD.ownsRow w3.heap.size 42 1 g0 N (fls mkf N)) := own_below MGC.out hbD; have BD : Hid (Below w.heap.size w wD) := bstep BC.out hbD; have DD : Hid (Below w2.heap.size w2 wD) := bstep DC.out hbD; clear hoD hbD hqD)
      | (go_at_call 9; have Z := MD; (fail_if_success have := ME); refine (eqF_yes (fl_of_own OH.out) (Fl.below FW.out DD.out) hN HQ.out).mono ?_; rintro e wE ⟨rfl, hbE⟩; have ME : Hid True := trivial; have MGE : Hid (wE.ownsRow w3.heap.size 42 1 g0 N (fls mkf N)) := own_below MGD.out hbE; have BE : Hid (Below w.heap.size w wE) := bstep BD.out hbE; clear hbE)
      | (go_at_call 13; have Z := ME; (fail_if_success have := MF); refine (heldF MGE.out hN).mono ?_; rintro e w' ⟨rfl, hw⟩; obtain rfl := hw.symm; have MF : Hid True := trivial))
  go_ret
  exact ⟨rfl, BE.out⟩

theorem walk_avg {w : World} {v : Value} {n : Nat} {ms : Nat → Nat} {X Y : Nat → Nat → Nat} (hv : Fpp w v n ms X Y) (hn : n ≤ 9223372036854775807) (hms : ∀ k, k < n → ms k ≤ 9223372036854775807) : Calls Try.prog 4 #[v] w fun e w' => e = .returned (.bool true) ∧ Below w.heap.size w w' := by
  by_cases hg : GA n ms
  · have h128 := hg.2.1
    exact avg_of hv hn hms (ms 0) (by omega) (avv X Y n) true (fun h hm W u hu => sAvg_any hu h hm _ _ _ (fun _ => ⟨rfl, rfl, rfl⟩) (fun h => absurd hg h)) (fun _ _ W u hu => iAvg_good hu hg)
  · exact avg_of hv hn hms 0 (by omega) (fun _ => none) false (fun h hm W u hu => sAvg_any hu h hm _ _ _ (fun h => absurd h hg) (fun _ => ⟨rfl, rfl⟩)) (fun h hm W u hu => iAvg_bad hu h hm hg _)
end Go.Proofs.Ytocdamhpcadfbaa
