/- FnCrossed: the law. -/
import Derived.Test.YtnnfamgiolognaaXD
namespace Go.Proofs.Ytnnfamgiolognaa
open Go.RowKit

/-- What the walk wants of crossings. -/
structure Cw (n : Nat) (xs : Nat → Int) (band : Int) (NN : Nat) (ys : Nat → Int) : Prop where
  s : NN ≤ 512
  f1 : ∀ k, k < NN → ∃ p : Nat, ys k = (p : Int) ∧ 1 ≤ p ∧ p < n ∧ Smp (xs p) ∧ 0 ≤ band ∧ (band < xs p ∨ xs p < -band)
  f2 : ∀ k, k + 1 < NN → ∀ p q : Nat, ys k = (p : Int) → ys (k + 1) = (q : Int) → p < q ∧ ((band < xs q ∧ xs p < -band) ∨ (xs q < -band ∧ band < xs p))

theorem cw_any {n : Nat} {xs : Nat → Int} {band : Int} (hn : n ≤ 513) (hb : band ≤ 9223372036854775807) : ∃ NN ys, Cw n xs band NN ys ∧
    (∀ W u, Il W u n xs → Calls Try.prog 6 #[u, .int .i64 band] W fun e w' => Pcr W w' e NN ys) ∧ (∀ W u, Il W u n xs → Calls Try.prog 7 #[u, .int .i64 band] W fun e w' => Pcr W w' e NN ys) := by
  by_cases h : Sig n xs ∧ 0 ≤ band
  · obtain ⟨e1, e2, e3⟩ := cf_any band xs n
    have hl := crl_len band xs n
    have h5 := h.1.1
    refine ⟨(crl band xs n).length, lf (crl band xs n), ⟨by omega, fun k hk => ?_, fun k hk p q hp hq => ?_⟩, fun W u hu => iCr_good hu h.1 ⟨h.2, hb⟩, fun W u hu => sCr_good hu h.1 ⟨h.2, hb⟩⟩
    · obtain ⟨p, h1, h2, h3, h4⟩ := e1 k hk
      refine ⟨p, h1, h2, h3, h.1.2 p h3, h.2, ?_⟩
      rcases sdv_cases (xs p) band with g | g | g
      · exact .inl (sdv_one h.2 g)
      · exact absurd g h4
      · exact .inr (sdv_neg h.2 g)
    · obtain ⟨h1, h2⟩ := e2 k hk p q hp hq
      refine ⟨h1, ?_⟩
      obtain ⟨p', h3, _, _, h4⟩ := e1 k (by omega)
      obtain rfl : p' = p := by rw [h3] at hp; omega
      rcases sdv_cases (xs p') band with g | g | g
      · rw [g] at h2; exact .inr ⟨sdv_neg h.2 h2, sdv_one h.2 g⟩
      · exact absurd g h4
      · rw [g] at h2; exact .inl ⟨sdv_one h.2 h2, sdv_neg h.2 g⟩
  · exact ⟨0, fun _ => 0, ⟨by omega, fun k hk => by omega, fun k hk => by omega⟩, fun W u hu => iCr_bad hu (by omega) h _, fun W u hu => sCr_bad hu (by omega) h _⟩

set_option maxRecDepth 50000 in
set_option maxHeartbeats 8000000 in
theorem walk_crossed {w : World} {a : Option Addr} {len cap : Nat} (hr : Row w a len) (hlen : len ≤ 9223372036854775807) :
    Calls Try.prog 3 #[.slice a len cap] w fun e w' => e = .returned (.bool true) ∧ Below w.heap.size w w' := by
  have ib := big_x (w := w) a len cap hlen
  by_cases hl : len ≤ 1048576
  · rw [decide_eq_false (by omega)] at ib
    have j0 := dcr_x (cap := cap) hr hl
    clear hr
    go_enter Try.func3, Try.ntmps3
    go_upto_region 4 with (first
      | (go_at_call 4; (with_reducible refine ib.mono ?_); rintro e w' ⟨rfl, hw⟩; obtain rfl := hw.symm)
      | (go_at_call 5; (with_reducible refine j0.mono ?_); rintro e w1 ⟨uv, band, rfl, hq⟩))
    clear ib j0
    obtain ⟨hbd, ⟨n, xs, hn, hI⟩, hb⟩ := hq.out
    clear hq
    obtain ⟨NN, ys, hcw, i1, i2⟩ := cw_any (xs := xs) hn hbd
    have HI : Hid (Il w1 uv n xs) := hI
    have B1 : Hid (Below w.heap.size w w1) := hb
    have I1 : Hid (∀ W u, Il W u n xs → Calls Try.prog 6 #[u, .int .i64 band] W fun e w' => Pcr W w' e NN ys) := i1
    have I2 : Hid (∀ W u, Il W u n xs → Calls Try.prog 7 #[u, .int .i64 band] W fun e w' => Pcr W w' e NN ys) := i2
    have hNN := hcw.s
    have HCW : Hid (Cw n xs band NN ys) := hcw
    clear hb i1 i2 hcw
    obtain ⟨ao, lcap, rfl, hlcap, _⟩ := hI
    go_upto_region 8 with (first
      | (go_at_call 6; refine (I1.out _ _ HI.out).mono ?_; rintro e w2 ⟨cv, rfl, ho, hb⟩; have B2 : Hid (Below w1.heap.size w1 w2) := hb; have O2 : Hid (w2.ownsRow w1.heap.size 3 1 cv NN (ils ys NN)) := ho; obtain ⟨co, ccap, rfl, hccap, _⟩ := il_of_own ho; clear ho hb)
      | (go_at_call 7; refine (I2.out _ _ (HI.out.below B2.out)).mono ?_; rintro e w3 ⟨sv, rfl, ho, hb⟩; have B3 : Hid (Below w2.heap.size w2 w3) := hb; obtain ⟨so, scap, rfl, hscap, _⟩ := il_of_own ho; clear ho hb))
    have B13 : Hid (Below w1.heap.size w1 w3) := bstep B2.out B3.out
    have BW3 : Hid (Below w.heap.size w w3) := bstep B1.out B13.out
    obtain ⟨_, _, hv1, _, hc1⟩ := HI.out.below B13.out
    cases hv1
    obtain ⟨_, _, hv2, _, hc2⟩ := il_of_own (own_below O2.out B3.out)
    cases hv2
    have HC1 : Hid (0 < n → ∃ b off, ao = some ⟨b, off, none⟩ ∧ b < w3.heap.size ∧ ∀ k, k < n → w3.cell? ⟨b, off + k, none⟩ = some (.int .i64 (xs k))) := hc1
    have HC2 : Hid (0 < NN → ∃ b off, co = some ⟨b, off, none⟩ ∧ b < w3.heap.size ∧ ∀ k, k < NN → w3.cell? ⟨b, off + k, none⟩ = some (.int .i64 (ys k))) := hc2
    clear hc1 hc2 B1 B2 B3 B13 O2 HI I1 I2
    go_loopw [6] (fun i wr => ∃ k : Nat, i = .int .i64 k ∧ k ≤ NN ∧ Hid (Below w3.heap.size w3 wr)) (fun i _ => NN - (intOf i).toNat)
    case atStart => exact ⟨0, rfl, by omega, Below.refl _ _⟩
    case round =>
      obtain ⟨k, rfl, hk, hbl⟩ := hrel
      by_cases h1 : k < NN
      · obtain ⟨p, hp, hp1, hpn, hsm, hb0, hsd⟩ := HCW.out.f1 k h1
        obtain ⟨b, off, rfl, hlt, hcell⟩ := HC1.out (by omega)
        obtain ⟨b2, off2, rfl, hlt2, hcell2⟩ := HC2.out (by omega)
        have c1 := (hbl.out.cell (p := ⟨b2, off2 + k, none⟩) hlt2).trans (hcell2 k h1)
        rw [hp] at c1
        have c2 := (hbl.out.cell (p := ⟨b, off + p, none⟩) hlt).trans (hcell p hpn)
        have ia := abs_any (xs p) hsm
        have e3 : off2 + ((k : Int) - 1).toNat = off2 + (k - 1) := by omega
        have s1 : decide ((p : Int) < 1) = false := by simp; omega
        have s2 : decide ((n : Int) ≤ (p : Int)) = false := by simp; omega
        have s3 : decide (n ≤ p) = false := by simp; omega
        have s4 : decide (p < 1) = false := by simp; omega
        by_cases h0 : k = 0
        · subst h0
          rw [Nat.add_zero] at c1
          clear hcell hcell2
          obtain ⟨x, hx⟩ : ∃ x, x = xs p := ⟨_, rfl⟩
          rw [← hx] at c2 ia hsd
          clear hx hp e3
          rcases hsd with g | g
          · rw [if_neg (by omega)] at ia
            have s5 : decide (x ≤ band) = false := by simp; omega
            go_wp2_with (go_quiet ((go_at_call 8; with_reducible exact Calls.quiet_of_same (ia _))))
            go_roundw
            case rel => exact ⟨0 + 1, by go_num, by omega, below_drewN hbl.out _⟩
            case measure => simp [intOf]; omega
          · rw [if_pos (by omega)] at ia
            have s5 : decide (-x ≤ band) = false := by simp; omega
            have s6 : decide (x < 0) = true := by simp; omega
            go_wp2_with (go_quiet ((go_at_call 8; with_reducible exact Calls.quiet_of_same (ia _))))
            go_roundw
            case rel => exact ⟨0 + 1, by go_num, by omega, below_drewN hbl.out _⟩
            case measure => simp [intOf]; omega
        · obtain ⟨q, hq, hq1, hqn, _, _, _⟩ := HCW.out.f1 (k - 1) (by omega)
          have hpq := HCW.out.f2 (k - 1) (by omega) q p hq (by rw [Nat.sub_add_cancel (by omega)]; exact hp)
          have c3 := (hbl.out.cell (p := ⟨b2, off2 + (k - 1), none⟩) hlt2).trans (hcell2 (k - 1) (by omega))
          rw [hq] at c3
          have c4 := (hbl.out.cell (p := ⟨b, off + q, none⟩) hlt).trans (hcell q hqn)
          clear hcell hcell2
          obtain ⟨x, hx⟩ : ∃ x, x = xs p := ⟨_, rfl⟩
          obtain ⟨y, hy⟩ : ∃ y, y = xs q := ⟨_, rfl⟩
          rw [← hx] at c2 ia hsd hpq
          rw [← hy] at c4 hpq
          clear hx hy hp hq hsd
          obtain ⟨hlt3, hsd⟩ := hpq
          have t1 : decide (0 < (k : Int)) = true := by simp; omega
          have t2 : decide (0 < k) = true := by simp; omega
          have t5 : decide ((p : Int) ≤ (q : Int)) = false := by simp; omega
          have t6 : decide (p ≤ q) = false := by simp; omega
          rcases hsd with ⟨g, g2⟩ | ⟨g, g2⟩
          · rw [if_neg (by omega)] at ia
            have s5 : decide (x ≤ band) = false := by simp; omega
            have t3 : decide (0 < x) = true := by simp; omega
            have t4 : decide (0 < y) = false := by simp; omega
            go_wp2_with (go_quiet ((go_at_call 8; with_reducible exact Calls.quiet_of_same (ia _))))
            go_roundw
            case rel => exact ⟨k + 1, by go_num, by omega, below_drewN hbl.out _⟩
            case measure => simp [intOf]; omega
          · rw [if_pos (by omega)] at ia
            have s5 : decide (-x ≤ band) = false := by simp; omega
            have s6 : decide (x < 0) = true := by simp; omega
            have t3 : decide (0 < x) = false := by simp; omega
            have t4 : decide (0 < y) = true := by simp; omega
            go_wp2_with (go_quiet ((go_at_call 8; with_reducible exact Calls.quiet_of_same (ia _))))
            go_roundw
            case rel => exact ⟨k + 1, by go_num, by omega, below_drewN hbl.out _⟩
            case measure => simp [intOf]; omega
      · have BR : Hid (Below w.heap.size w wr) := bstep BW3.out hbl.out
        have il := cr_lit wr
        go_wp2_with (first
          | (go_at_call 6; (with_reducible refine il.mono ?_); rintro e w4 ⟨r, rfl, hr, hb⟩; have R4 : Hid (Il w4 r 2 (fun i => [1, 3].getD i 0)) := hr; have B4 : Hid (Below w.heap.size w w4) := bstep BR.out hb; clear hr hb)
          | (go_at_call 9; refine (same_yes (R4.out.below (below_one _ _)) (lit_il w4 [1, 3]) (by decide) (fun k _ => rfl)).mono ?_; rintro e w5 ⟨rfl, hb⟩; have B5 : Hid (Below w.heap.size w w5) := bstep (bstep B4.out (below_one _ _)) hb; clear hb))
        go_ret
        exact ⟨rfl, B5.out⟩
  · rw [decide_eq_true (by omega)] at ib
    clear hr
    go_enter Try.func3, Try.ntmps3
    go_wp2_with (first
      | (go_at_call 4; (with_reducible refine ib.mono ?_); rintro e w' ⟨rfl, hw⟩; obtain rfl := hw.symm))
    go_ret
    exact ⟨rfl, Below.refl _ _⟩
end Go.Proofs.Ytnnfamgiolognaa
