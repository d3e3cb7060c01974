/- FnDftTwice: the walk. -/
import Derived.Test.YtabdondefoldaaaDoorTC
import Derived.Test.YtabdondefoldaaaDoorGI
import Derived.Test.YtabdondefoldaaaDoorGJ
import Derived.Test.YtabdondefoldaaaDoorGP
import Derived.Test.YtabdondefoldaaaDoorRO
namespace Go.Proofs.YtabdondefoldaaaDoor
open Go.RowKit

theorem dft_one {xs : Nat → Int} {W p : Int} (h : 0 ≤ xs 0 ∧ xs 0 < p) : dft xs 1 W 1 p 0 = xs 0 := by
  unfold dft dsum dsum
  rw [Nat.zero_mul, Int.pow_zero, Int.mul_one, Int.zero_add, Int.mul_one, Int.emod_emod_of_dvd _ (Int.dvd_refl p), Int.emod_eq_of_lt h.1 h.2]

theorem d2_five : d2 1 1 998244353 false (fun _ _ => 5) 0 0 = 5 := by
  have e1 : ∀ i, dr 1 998244353 false (fun _ _ => 5) i 0 = 5 := fun i => by
    unfold dr
    have e2 : dB ((1 : Nat) : Int) 998244353 false = 1 := by simp [dB]
    rw [e2]
    exact dft_one (by show 0 ≤ (5 : Int) ∧ (5 : Int) < 998244353; omega)
  unfold d2
  have e2 : dB ((1 : Nat) : Int) 998244353 false = 1 := by simp [dB]
  rw [e2]
  have h := dft_one (xs := fun i => dr 1 998244353 false (fun _ _ => 5) i 0) (W := dW ((1 : Nat) : Int) 998244353 false) (p := 998244353) (by rw [e1 0]; omega)
  rw [h]
  exact e1 0

theorem g2_five : G2 1 1 (fun _ => 1) (fun _ _ => 5) 998244353 :=
  ⟨.inl rfl, fun i _ => ⟨rfl, .inl rfl, ⟨by omega, fun k _ => by show 0 ≤ (5 : Int) ∧ (5 : Int) ≤ 998244353 - 1; omega⟩, .inl rfl⟩⟩

/-- The written-out plane of one number. -/
theorem ipp_five (W : World) : Ipp ((W.alloc (.cells #[.int .i64 5] 3)).alloc (.cells #[.slice (some ⟨W.heap.size, 0, none⟩) 1 1] 29)) (.slice (some ⟨W.heap.size + 1, 0, none⟩) 1 1) 1 (fun _ => 1) (fun _ _ => 5) := by
  have hsz : (W.alloc (.cells #[.int .i64 5] 3)).heap.size = W.heap.size + 1 := Array.size_push _
  have hb := below_one (W.alloc (.cells #[.int .i64 5] 3)) (.cells #[.slice (some ⟨W.heap.size, 0, none⟩) 1 1] 29)
  refine ⟨_, _, rfl, Nat.le_refl _, fun _ => ⟨W.heap.size + 1, 0, fun _ => .slice (some ⟨W.heap.size, 0, none⟩) 1 1, rfl, ?_, fun k hk => ?_⟩⟩
  · rw [← hsz]
    exact Nat.lt_of_lt_of_eq (Nat.lt_succ_self _) (Array.size_push _).symm
  · obtain rfl : k = 0 := by omega
    refine ⟨?_, _, _, rfl, Nat.le_refl _, fun _ => ⟨W.heap.size, 0, rfl, ?_, fun q hq => ?_⟩⟩
    · rw [← hsz]
      simp
    · exact Nat.lt_of_lt_of_le (by rw [hsz]; omega) hb.size
    · obtain rfl : q = 0 := by have : q < 1 := hq; omega
      rw [hb.cell (p := ⟨W.heap.size, 0 + 0, none⟩) (by show W.heap.size < _; rw [hsz]; omega)]
      simp

theorem g2_trans {n c : Nat} {ms : Nat → Nat} {T : Nat → Nat → Int} {p : Int} {back : Bool} (h : G2 n c ms T p) (hn : 1 ≤ n) : G2 n c (fun _ => c) (d2 n c p back T) p := by
  obtain ⟨h1, h2⟩ := h
  obtain ⟨_, hp, hr, hw⟩ := h2 0 (by omega)
  have hb := hp.bounds
  exact ⟨h1, fun i _ => ⟨rfl, hp, ⟨hr.1, fun k _ => dft_bounds (by omega) _⟩, hw⟩⟩

theorem g2_turn {n c : Nat} {ms : Nat → Nat} {T : Nat → Nat → Int} {p : Int} (h : G2 n c ms T p) (hn : 1 ≤ n) : G2 c n (fun _ => n) (fun t i => T i t) p := by
  obtain ⟨h1, h2⟩ := h
  obtain ⟨_, hp, hr, hw⟩ := h2 0 (by omega)
  have hb := h1.bounds
  exact ⟨hw, fun t ht => ⟨rfl, hp, ⟨by omega, fun i hi => (h2 i hi).2.2.1.2 t ht⟩, h1⟩⟩

theorem rgr_cells {X : World} {B c : Nat} {o : Value} {gs cs : Nat → Nat} {M : Nat → Nat → Int} (h : Rgr X B o 1 c gs cs M) (hc : 1 ≤ c) : ∃ g cap, o = .slice (some ⟨g, 0, none⟩) 1 cap ∧ X.cell? ⟨g, 0, none⟩ = some (.slice (some ⟨gs 0, 0, none⟩) c (cs 0)) ∧ X.cell? ⟨gs 0, 0, none⟩ = some (.int .i64 (M 0 0)) := by
  obtain ⟨ao, cap, rfl, hcap, ha⟩ := h.open
  obtain ⟨g, rfl⟩ := ha (by omega)
  refine ⟨g, cap, rfl, h.at (by omega), ?_⟩
  have := World.ownsRow.cellAt (h.rows 0 (by omega)) 0 (by omega)
  rw [ils_get (by omega)] at this
  exact this

set_option maxRecDepth 100000 in
set_option maxHeartbeats 8000000 in
theorem walk_twice {w : World} {a : Option Addr} {len cap : Nat} (hs : Prs w) (hr : Row w a len) (hl : len ≤ 9223372036854775807) :
    Calls Tryd.prog 3 #[.slice a len cap] w fun e w' => e = .returned (.bool true) ∧ Below w.heap.size w w' := by
  have i1 := big_x (w := w) a len cap hl
  by_cases hbig : 1048576 < len
  · rw [decide_eq_true (by omega)] at i1
    clear hr hs
    go_enter Tryd.func3, Tryd.ntmps3
    go_wp2_with (go_at_call 4; (with_reducible refine (i1).mono ?_); rintro e w' ⟨rfl, hw⟩; obtain rfl := hw.symm)
    go_ret
    exact ⟨rfl, Below.refl _ _⟩
  rw [decide_eq_false (by omega)] at i1
  have hl2 : len ≤ 1048576 := by omega
  have HR : Hid (Row w a len) := hr
  have HP : Hid (Prs w) := hs
  clear hr hs hbig
  go_enter Tryd.func3, Tryd.ntmps3
  go_wp2_with (first
    | (go_at_call 4; (with_reducible refine (i1).mono ?_); rintro e w' ⟨rfl, hw⟩; obtain rfl := hw.symm)
    | (go_at_call 5; refine (ddft2_x HR.out hl2).mono ?_; rintro e w1 ⟨u1, n, ms, T, p, b1, rfl, hn4, hms, hI, hb⟩; have HI1 : Hid (Ipp w1 u1 n ms T) := hI; have HM1 : Hid (∀ i, i < n → ms i ≤ 9) := hms; have B1 : Hid (Below w.heap.size w w1) := hb; have P1 : Hid (Prs w1) := HP.out.below hb; have hor : (Hid (G2 n (ms 0) ms T p)) ∨ (Hid (¬ G2 n (ms 0) ms T p)) := Classical.em _; clear hI hb hms; rcases hor with hg | hg)
    | (go_at_call 6; (fail_if_success have := M2); have Z : G2 n (ms 0) ms T p := hg.out; clear Z; refine (iDft2_yes P1.out HI1.out hg.out).mono ?_; rintro e w2 ⟨u2, gs2, cs2, rfl, hR2, hb2⟩; have M2 : Hid True := trivial; have R2 : Hid (Rgr w2 w1.heap.size u2 n (ms 0) gs2 cs2 (d2 n (ms 0) p false T)) := hR2; have D2 : Hid (Below w1.heap.size w1 w2) := hb2; clear hR2 hb2)
    | (go_at_call 6; (fail_if_success have := M2); refine (iDft2_no P1.out HI1.out (by omega) (fun i hi => Nat.le_trans (HM1.out i hi) (by decide)) hg.out).mono ?_; rintro e w2 ⟨u2, rfl, hR2, hb2⟩; have M2 : Hid True := trivial; have MN : Hid True := trivial; have D2 : Hid (Below w1.heap.size w1 w2) := hb2; clear hR2 hb2)
    | (go_at_call 7; (fail_if_success have := MN); refine (sDft2_yes (HI1.out.below D2.out) hg.out).mono ?_; rintro e w3 ⟨u3, gs3, cs3, rfl, _, hb3⟩; have D3 : Hid (Below w2.heap.size w2 w3) := hb3; have W3 : Hid (Below w1.heap.size w1 w3) := bstep D2.out hb3; clear hb3)
    | (go_at_call 7; have Z := MN; clear Z; refine (sDft2_no (HI1.out.below D2.out) (by omega) (fun i hi => Nat.le_trans (HM1.out i hi) (by decide)) hg.out).mono ?_; rintro e w3 ⟨u3, rfl, _, hb3⟩; have W3 : Hid (Below w1.heap.size w1 w3) := bstep D2.out hb3; have P3 : Hid (Prs w3) := P1.out.below W3.out; clear hb3)
    | (go_at_call 6; have Z := MN; clear Z; have b4 := below_one w3 (.cells #[.int .i64 5] 3); have b5 := below_one (w3.alloc (.cells #[.int .i64 5] 3)) (.cells #[.slice (some ⟨w3.heap.size, 0, none⟩) 1 1] 29); refine (iDft2_yes ((P3.out.below b4).below b5) (ipp_five w3) g2_five).mono ?_; rintro e w6 ⟨u6, gs6, cs6, rfl, hR6, hb6⟩; obtain ⟨g6, cp6, rfl, q1, q2⟩ := rgr_cells hR6 (by omega); rw [d2_five] at q2; have W6 : Hid (Below w.heap.size w w6) := bstep (bstep (bstep (bstep B1.out W3.out) b4) b5) hb6; clear hR6 hb6 b4 b5)
    | (go_at_call 6; (fail_if_success have := MN); (fail_if_success have := M4); refine (iDft2_yes (P1.out.below W3.out) (R2.out.call D3.out).ipp (g2_trans hg.out (by have := hg.out.1.bounds; omega))).mono ?_; rintro e w4 ⟨u4, gs4, cs4, rfl, hR4, hb4⟩; have M4 : Hid True := trivial; have R4 := hide hR4; have D4 : Hid (Below w3.heap.size w3 w4) := hb4; have W4 : Hid (Below w1.heap.size w1 w4) := bstep W3.out hb4; have I1 : Hid (Ipp w4 u1 n (fun _ => ms 0) T) := (HI1.out.below W4.out).congr (fun i hi => ⟨(hg.out.2 i hi).1, fun _ _ => rfl⟩); clear hR4 hb4)
    | (go_at_call 8; (fail_if_success have := M5); have Z := M4; clear Z; refine (turned_any I1.out (by have := hg.out.1.bounds; omega) (by omega) (by have := (hg.out.2 0 (by have := hg.out.1.bounds; omega)).2.2.1.1; omega)).mono ?_; rintro e w5 ⟨u5, rfl, hI5, hb5⟩; have M5 : Hid True := trivial; have I5 := hide hI5; have D5 : Hid (Below w4.heap.size w4 w5) := hb5; have W5 : Hid (Below w1.heap.size w1 w5) := bstep W4.out hb5; clear hI5 hb5)
    | (go_at_call 6; have Z := M5; clear Z; refine (iDft2_yes (P1.out.below W5.out) I5.out (g2_turn hg.out (by have := hg.out.1.bounds; omega))).mono ?_; rintro e w6 ⟨u6, gs6, cs6, rfl, hR6, hb6⟩; have M6 : Hid True := trivial; have R6 := hide hR6; have D6 : Hid (Below w5.heap.size w5 w6) := hb6; have W6 : Hid (Below w1.heap.size w1 w6) := bstep W5.out hb6; clear hR6 hb6)
    | (go_at_call 9; have Z := M6; clear Z; (fail_if_success have := M7); refine (sameR_yes (((R4.out.call D5.out).call D6.out).ipp.congr (fun i hi => ⟨rfl, fun t ht => d2_back (hg.out.2 0 (by have := hg.out.1.bounds; omega)).2.1 hg.out.1 (hg.out.2 0 (by have := hg.out.1.bounds; omega)).2.2.2 (fun i hi t ht => (hg.out.2 i hi).2.2.1.2 t ht) hi ht⟩)) (I1.out.below (bstep D5.out D6.out)) (by omega) (fun _ _ => by have := (hg.out.2 0 (by have := hg.out.1.bounds; omega)).2.2.1.1; omega)).mono ?_; rintro e w7 ⟨rfl, hb7⟩; have M7 : Hid True := trivial; have D7 : Hid (Below w6.heap.size w6 w7) := hb7; have W7 : Hid (Below w1.heap.size w1 w7) := bstep W6.out hb7; clear hb7)
    | (go_at_call 8; have Z := M7; clear Z; refine (turned_any (R6.out.call D7.out).ipp (by have := (hg.out.2 0 (by have := hg.out.1.bounds; omega)).2.2.2.bounds; omega) (by have := (hg.out.2 0 (by have := hg.out.1.bounds; omega)).2.2.1.1; omega) (by omega)).mono ?_; rintro e w8 ⟨u8, rfl, hI8, hb8⟩; have M8 : Hid True := trivial; have I8 := hide (hI8.congr (ms' := fun _ => ms 0) (X' := d2 n (ms 0) p false T) (fun i hi => ⟨rfl, fun t ht => (d2_turn n (ms 0) p false T i t).symm⟩)); have D8 : Hid (Below w7.heap.size w7 w8) := hb8; have W8 : Hid (Below w1.heap.size w1 w8) := bstep W7.out hb8; clear hI8 hb8)
    | (go_at_call 9; have Z := M8; clear Z; refine (sameR_yes I8.out (R2.out.call (bstep (bstep (bstep (bstep (bstep D3.out D4.out) D5.out) D6.out) D7.out) D8.out)).ipp (by omega) (fun _ _ => by have := (hg.out.2 0 (by have := hg.out.1.bounds; omega)).2.2.1.1; omega)).mono ?_; rintro e w9 ⟨rfl, hb9⟩; have W9 : Hid (Below w.heap.size w w9) := bstep (bstep B1.out W8.out) hb9; clear hb9))
  · go_ret
    exact ⟨rfl, W9.out⟩
  · go_ret
    exact ⟨rfl, W6.out⟩
end Go.Proofs.YtabdondefoldaaaDoor
