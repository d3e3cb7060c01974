/- Dft2: the law's walk; rows out of an argument. -/
import Derived.Test.YtokpgbcmlinnmaaDoorGP
import Derived.Test.YtokpgbcmlinnmaaDoorO1
import Derived.Test.YtokpgbcmlinnmaaDoorIL
import Derived.Deep.Slices
namespace Go.Proofs.YtokpgbcmlinnmaaDoor
open Go.ChangeShapes Go.WideShapes Go.ChangeAt Go.WideMaps Go.WideElems Go.RowKit

/-- What the reading of rows of ints gives the walk. -/
theorem ipp_of {H : Type} {enc : TypeId × Value → H} {W : World} {base : Nat} {sp : Nat → Bool} {held : Bool} {fuel : Nat} {a : Option Addr} {len cap : Nat} {d : DataW H} {ps : List MemPlace}
    (hf : DataW.trod enc Tryd.prog W base sp held fuel 33 (Value.slice a len cap).cells.toList = some (d, ps)) : len ≤ 9223372036854775807 ∧ ∃ ms X, (∀ k, k < len → ms k ≤ 9223372036854775807) ∧ Ipp W (.slice a len cap) len ms X := by
  have hmax : maxLen = 9223372036854775807 := by rfl
  have hc : Tryd.prog.cellsOf 26 = 1 := by kernel_rfl
  rcases Deep.open_slice1 Tryd.underlying33 hc hf with ⟨h0, _⟩ | ⟨a', len', cap', m, n, V, D, Pl, hcs, hb, hl, hm, hmm, _, hel⟩
  · simp [Value.cells] at h0
    obtain ⟨rfl, rfl, rfl⟩ := h0
    exact ⟨by omega, fun _ => 0, fun _ _ => 0, fun k hk => by omega, none, 0, rfl, Nat.le_refl _, fun h => absurd h (by omega)⟩
  · simp [Value.cells] at hcs
    obtain ⟨rfl, rfl, rfl⟩ := hcs
    have hlm : len ≤ m := by rw [hmm]; split <;> omega
    have each : ∀ i, i < len → ∃ q : Nat × (Nat → Int), q.1 ≤ 9223372036854775807 ∧ W.cell? (a'.add i) = some (V i) ∧ Il W (V i) q.1 q.2 := by
      intro i hi
      obtain ⟨h1, h2⟩ := hel i (by omega)
      rcases DataW.trod_slice Tryd.underlying26 h2 with ⟨h3, _⟩ | ⟨a2, l2, c2, _, _, _, _, h3, _⟩
      · have e : V i = .slice none 0 0 := by simpa using h3
        rw [e] at h2
        obtain ⟨g1, xs, g2⟩ := il_of (a := none) (len := 0) (cap := 0) h2
        exact ⟨(0, xs), g1, h1, by rw [e]; exact g2⟩
      · have e : V i = .slice (some a2) l2 c2 := by simpa using h3
        rw [e] at h2
        obtain ⟨g1, xs, g2⟩ := il_of (a := some a2) (len := l2) (cap := c2) h2
        exact ⟨(l2, xs), g1, h1, by rw [e]; exact g2⟩
    obtain ⟨q, hq⟩ := Deep.choose_lt each
    obtain ⟨b, off, spot⟩ := a'
    refine ⟨by omega, fun k => (q k).1, fun k => (q k).2, fun k hk => (hq k hk).1, some ⟨b, off, spot⟩, cap, rfl, hl, fun h0 => ?_⟩
    have hspot : spot = none := by
      have hx := (hq 0 h0).2.1
      simpa [Addr.add] using World.cell?_spot hx
    subst hspot
    have each' : ∀ i, i < len → W.cell? ⟨b, off + i, none⟩ = some (V i) := by
      intro i hi
      have hx := (hq i hi).2.1
      by_cases h : i = 0
      · subst h; simpa [Addr.add] using hx
      · simpa [Addr.add, h] using hx
    exact ⟨b, off, V, rfl, World.block_lt_of_cell? _ _ (each' 0 h0), fun k hk => ⟨each' k hk, (hq k hk).2.2⟩⟩



/-- What the document's side tells. -/
def Pd2 (w w' : World) (e : Ending) (N m : Nat) (Z : Nat → Nat → Int) (ok : Bool) : Prop := ∃ u, e = .returned (.tuple #[u, .bool ok]) ∧ Ipp w' u N (fun _ => m) Z ∧ Below w.heap.size w w'
/-- What the program's side tells: rows in memory of their own. -/
def Pr2 (w w' : World) (e : Ending) (N m : Nat) (Z : Nat → Nat → Int) (ok : Bool) : Prop := ∃ u gs cs, e = .returned (.tuple #[u, .bool ok]) ∧ Rgr w' w.heap.size u N m gs cs Z ∧ Below w.heap.size w w'

set_option maxRecDepth 20000 in
set_option maxHeartbeats 8000000 in
theorem dft2_of {w : World} {v : Value} {n : Nat} {ms : Nat → Nat} {X : Nat → Nat → Int} {p : Int} {back : Bool} (hp : Prs w) (hv : Ipp w v n ms X) (hn : n ≤ 9223372036854775807) (hms : ∀ k, k < n → ms k ≤ 9223372036854775807) (N m : Nat) (hN : N ≤ 1048576) (hm : m ≤ 1048576) (Z : Nat → Nat → Int) (ok : Bool)
    (hs : n ≤ 1048576 → (∀ k, k < n → ms k ≤ 1048576) → ∀ W u, Ipp W u n ms X → Calls Tryd.prog 21 #[u, .int .i64 p, .bool back] W fun e w' => Pd2 W w' e N m Z ok)
    (hi : n ≤ 1048576 → (∀ k, k < n → ms k ≤ 1048576) → ∀ W u, Prs W → Ipp W u n ms X → Calls Tryd.prog 23 #[u, .int .i64 p, .bool back] W fun e w' => Pr2 W w' e N m Z ok) :
    Calls Tryd.prog 7 #[v, .int .i64 p, .bool back] w fun e w' => e = .returned (.bool true) ∧ Below w.heap.size w w' := by
  have hz := szS_any hv hn hms
  have FV : Hid (Ipp w v n ms X) := hv
  have PR : Hid (Prs w) := hp
  have HS0 : Hid (n ≤ 1048576 → (∀ k, k < n → ms k ≤ 1048576) → ∀ W u, Ipp W u n ms X → Calls Tryd.prog 21 #[u, .int .i64 p, .bool back] W fun e w' => Pd2 W w' e N m Z ok) := hs
  have HI0 : Hid (n ≤ 1048576 → (∀ k, k < n → ms k ≤ 1048576) → ∀ W u, Prs W → Ipp W u n ms X → Calls Tryd.prog 23 #[u, .int .i64 p, .bool back] W fun e w' => Pr2 W w' e N m Z ok) := hi
  have HMM : Hid (∀ k, k < N → (fun _ : Nat => m) k ≤ 1048576) := fun _ _ => hm
  obtain ⟨ao, cap, rfl, hcap, hc⟩ := hv
  clear hc hs hi hms hp
  go_enter Tryd.func7, Tryd.ntmps7
  go_upto_region 3 with (first | (go_at_call 20; refine hz.mono ?_; rintro e w' ⟨⟨x, rfl, hx⟩, hw⟩; obtain rfl := hw.symm; have HX : Hid (0 ≤ x → n ≤ 1048576 ∧ ∀ k, k < n → ms k ≤ 1048576) := hx; clear hx))
  clear hz
  by_cases hx0 : x < 0
  · go_wp2
    go_ret
    exact ⟨rfl, Below.refl _ _⟩
  obtain ⟨h, hmm⟩ := HX.out (by omega)
  have HM : Hid (∀ k, k < n → ms k ≤ 1048576) := hmm
  have HS : Hid (∀ W u, Ipp W u n ms X → Calls Tryd.prog 21 #[u, .int .i64 p, .bool back] W fun e w' => Pd2 W w' e N m Z ok) := HS0.out h hmm
  have HI : Hid (∀ W u, Prs W → Ipp W u n ms X → Calls Tryd.prog 23 #[u, .int .i64 p, .bool back] W fun e w' => Pr2 W w' e N m Z ok) := HI0.out h hmm
  clear HX hmm HS0 HI0
  go_wp2_with (first
      | (go_at_call 22; (fail_if_success have := M1); refine (copyS_own FV.out h HM.out).mono ?_; rintro e w1 ⟨v1, rfl, ho1, hb1⟩; have M1 : Hid True := trivial; have F1 : Hid (Ipp w1 v1 n ms X) := OPI.ipp ho1; have B1 : Hid (Below w.heap.size w w1) := hb1; clear ho1 hb1)
      | (go_at_call 21; have Z0 := M1; (fail_if_success have := M2); refine (HS.out _ _ F1.out).mono ?_; rintro e w2 ⟨u0, rfl, ho2, hb2⟩; have M2 : Hid True := trivial; have FW : Hid (Ipp w2 u0 N (fun _ => m) Z) := ho2; have B2 : Hid (Below w.heap.size w w2) := bstep B1.out hb2; clear ho2 hb2)
      | (go_at_call 22; have Z0 := M2; (fail_if_success have := M3); refine (copyS_own (Ipp.below FV.out B2.out) h HM.out).mono ?_; rintro e w3 ⟨x0, rfl, ho3, hb3⟩; have M3 : Hid True := trivial; have OX : Hid (OPI w3 w2.heap.size w3.heap.size x0 n ms X) := ho3; have B3 : Hid (Below w.heap.size w w3) := bstep B2.out hb3; have D3 : Hid (Below w2.heap.size w2 w3) := hb3; clear ho3 hb3)
      | (go_at_call 23; have Z0 := M3; (fail_if_success have := M4); refine (HI.out _ _ (PR.out.below B3.out) (OPI.ipp OX.out)).mono ?_; rintro e w4 ⟨g0, gs, cs, rfl, ho4, hb4⟩; have M4 : Hid True := trivial; have OG : Hid (Rgr w4 w3.heap.size g0 N m gs cs Z) := ho4; have OX4 : Hid (OPI w4 w2.heap.size w3.heap.size x0 n ms X) := OPI.below OX.out hb4; have B4 : Hid (Below w.heap.size w w4) := bstep B3.out hb4; have D4 : Hid (Below w2.heap.size w2 w4) := bstep D3.out hb4; clear ho4 hb4)
      | (go_at_call 24; have Z0 := M4; (fail_if_success have := M5); refine (eqS_yes (Rgr.ipp OG.out) (Ipp.below FW.out D4.out) hN HMM.out).mono ?_; rintro e w5 ⟨rfl, hb5⟩; have M5 : Hid True := trivial; have OG5 : Hid (Rgr w5 w3.heap.size g0 N m gs cs Z) := Rgr.call OG.out hb5; have OX5 : Hid (OPI w5 w2.heap.size w3.heap.size x0 n ms X) := OPI.below OX4.out hb5; have B5 : Hid (Below w.heap.size w w5) := bstep B4.out hb5; have D5 : Hid (Below w2.heap.size w2 w5) := bstep D4.out hb5; clear hb5)
      | (go_at_call 22; have Z0 := M5; (fail_if_success have := M6); refine (copyS_own (Ipp.below FV.out B5.out) h HM.out).mono ?_; rintro e w6 ⟨y0, rfl, ho6, hb6⟩; have M6 : Hid True := trivial; have FY : Hid (Ipp w6 y0 n ms X) := OPI.ipp ho6; have OG6 : Hid (Rgr w6 w3.heap.size g0 N m gs cs Z) := Rgr.call OG5.out hb6; have OX6 : Hid (OPI w6 w2.heap.size w3.heap.size x0 n ms X) := OPI.below OX5.out hb6; have B6 : Hid (Below w.heap.size w w6) := bstep B5.out hb6; have D6 : Hid (Below w2.heap.size w2 w6) := bstep D5.out hb6; clear ho6 hb6)
      | (go_at_call 24; have Z0 := M6; (fail_if_success have := M7); refine (eqS_yes (OPI.ipp OX6.out) FY.out h HM.out).mono ?_; rintro e w7 ⟨rfl, hb7⟩; have M7 : Hid True := trivial; have OG7 : Hid (Rgr w7 w3.heap.size g0 N m gs cs Z) := Rgr.call OG6.out hb7; have OX7 : Hid (OPI w7 w2.heap.size w3.heap.size x0 n ms X) := OPI.below OX6.out hb7; have B7 : Hid (Below w.heap.size w w7) := bstep B6.out hb7; have D7 : Hid (Below w2.heap.size w2 w7) := bstep D6.out hb7; clear hb7)
      | (go_at_call 25; have Z0 := M7; (fail_if_success have := M8); refine (markSS OX7.out h HM.out).mono ?_; rintro e w8 ⟨rfl, _, hrg⟩; have M8 : Hid True := trivial; have OG8 : Hid (Rgr w8 w3.heap.size g0 N m gs cs Z) := Rgr.rng OG7.out hrg (Nat.le_refl _); have B8 : Hid (Below w.heap.size w w8) := hrg.below B7.out B2.out.size; have D8 : Hid (Below w2.heap.size w2 w8) := hrg.below D7.out (Nat.le_refl _); clear hrg)
      | (go_at_call 24; have Z0 := M8; (fail_if_success have := M9); refine (eqS_yes (Rgr.ipp OG8.out) (Ipp.below FW.out D8.out) hN HMM.out).mono ?_; rintro e w9 ⟨rfl, hb9⟩; have M9 : Hid True := trivial; have OG9 : Hid (Rgr w9 w3.heap.size g0 N m gs cs Z) := Rgr.call OG8.out hb9; have B9 : Hid (Below w.heap.size w w9) := bstep B8.out hb9; have D9 : Hid (Below w2.heap.size w2 w9) := bstep D8.out hb9; clear hb9)
      | (go_at_call 25; have Z0 := M9; (fail_if_success have := MA); refine (markR OG9.out hN hm).mono ?_; rintro e wA ⟨rfl, hmA, hbA⟩; have MA : Hid True := trivial; have MG : Hid (Rgr wA w3.heap.size g0 N m gs cs (fun k => mkF (1 + (tot (fun _ => m) k : Int)))) := hmA; have BA : Hid (Below w.heap.size w wA) := B9.out.trans (hbA.mono B3.out.size); have DA : Hid (Below w2.heap.size w2 wA) := D9.out.trans (hbA.mono D3.out.size); clear hbA hmA)
      | (go_at_call 26; have Z0 := MA; (fail_if_success have := MB); refine (heldR MG.out hN hm).mono ?_; rintro e w' ⟨rfl, hw⟩; obtain rfl := hw.symm; have MB : Hid True := trivial)
      | (go_at_call 22; have Z0 := MB; (fail_if_success have := MC); refine (copyS_own (Ipp.below FV.out BA.out) h HM.out).mono ?_; rintro e wC ⟨vC, rfl, hoC, hbC⟩; have MC : Hid True := trivial; have FC : Hid (Ipp wC vC n ms X) := OPI.ipp hoC; have MGC : Hid (Rgr wC w3.heap.size g0 N m gs cs (fun k => mkF (1 + (tot (fun _ => m) k : Int)))) := Rgr.call MG.out hbC; have BC : Hid (Below w.heap.size w wC) := bstep BA.out hbC; have DC : Hid (Below w2.heap.size w2 wC) := bstep DA.out hbC; clear hoC hbC)
      | (go_at_call 23; have Z0 := MC; (fail_if_success have := MD); refine (HI.out _ _ (PR.out.below BC.out) FC.out).mono ?_; rintro e wD ⟨h0, gs2, cs2, rfl, hoD, hbD⟩; have MD : Hid True := trivial; have FH : Hid (Ipp wD h0 N (fun _ => m) Z) := Rgr.ipp hoD; have MGD : Hid (Rgr wD w3.heap.size g0 N m gs cs (fun k => mkF (1 + (tot (fun _ => m) k : Int)))) := Rgr.call MGC.out hbD; have BD : Hid (Below w.heap.size w wD) := bstep BC.out hbD; have DD : Hid (Below w2.heap.size w2 wD) := bstep DC.out hbD; clear hoD hbD)
      | (go_at_call 24; have Z0 := MD; (fail_if_success have := ME); refine (eqS_yes FH.out (Ipp.below FW.out DD.out) hN HMM.out).mono ?_; rintro e wE ⟨rfl, hbE⟩; have ME : Hid True := trivial; have MGE : Hid (Rgr wE w3.heap.size g0 N m gs cs (fun k => mkF (1 + (tot (fun _ => m) k : Int)))) := Rgr.call MGD.out hbE; have BE : Hid (Below w.heap.size w wE) := bstep BD.out hbE; clear hbE)
      | (go_at_call 26; have Z0 := ME; (fail_if_success have := MF); refine (heldR MGE.out hN hm).mono ?_; rintro e w' ⟨rfl, hw⟩; obtain rfl := hw.symm; have MF : Hid True := trivial))
  go_ret
  exact ⟨rfl, BE.out⟩

theorem walk_dft2 {w : World} {v : Value} {n : Nat} {ms : Nat → Nat} {X : Nat → Nat → Int} (hp : Prs w) (hv : Ipp w v n ms X) (hn : n ≤ 9223372036854775807) (hms : ∀ k, k < n → ms k ≤ 9223372036854775807) (p : Int) (back : Bool) : Calls Tryd.prog 7 #[v, .int .i64 p, .bool back] w fun e w' => e = .returned (.bool true) ∧ Below w.heap.size w w' := by
  by_cases hg : G2 n (ms 0) ms X p
  · have hn1 : 1 ≤ n ∧ n ≤ 256 := by have := hg.1; omega
    have hc1 : ms 0 ≤ 256 := by have := (hg.2 0 (by omega)).2.2.2; omega
    refine dft2_of hp hv hn hms n (ms 0) (by omega) (by omega) (d2 n (ms 0) p back X) true (fun _ _ W u hu => ?_) (fun _ _ W u hs hu => ?_)
    · refine (sDft2_yes hu hg).mono ?_
      rintro e w' ⟨u, gs, cs, rfl, hR, hB⟩
      exact ⟨u, rfl, hR.ipp, hB⟩
    · refine (iDft2_yes hs hu hg).mono ?_
      rintro e w' ⟨u, gs, cs, rfl, hR, hB⟩
      exact ⟨u, gs, cs, rfl, hR, hB⟩
  · refine dft2_of hp hv hn hms 0 0 (by omega) (by omega) (fun _ _ => 0) false (fun h hm W u hu => ?_) (fun h hm W u hs hu => ?_)
    · refine (sDft2_no hu h hm hg).mono ?_
      rintro e w' ⟨u, rfl, ho, hB⟩
      exact ⟨u, rfl, (Rgr.none (fun _ => 0) (fun _ => 0) _ ho).ipp, hB⟩
    · refine (iDft2_no hs hu h hm hg).mono ?_
      rintro e w' ⟨u, rfl, ho, hB⟩
      exact ⟨u, fun _ => 0, fun _ => 0, rfl, Rgr.none _ _ _ ho, hB⟩
end Go.Proofs.YtokpgbcmlinnmaaDoor
