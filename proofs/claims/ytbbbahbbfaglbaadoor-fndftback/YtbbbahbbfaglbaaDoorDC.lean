/- FnDftBack: the law. -/
import Derived.Test.YtbbbahbbfaglbaaDoorDB
import Derived.Deep.Cut
namespace Go.Proofs.YtbbbahbbfaglbaaDoor
open Go.RowKit

set_option maxHeartbeats 8000000 in
theorem walk_dftback {w : World} (hs : Prs w) {a : Option Addr} {n cap : Nat} (hr : Row w a n) (hn : n ≤ 9223372036854775807) : Calls Tryd.prog 3 #[.slice a n cap] w fun e w' => e = .returned (.bool true) ∧ Below w.heap.size w w' := by
  have hz := fun W => big_x (w := W) a n cap hn
  by_cases h : n ≤ 1048576
  · rw [decide_eq_false (show ¬ (1048576 : Int) < (n : Int) by omega)] at hz
    have hd := ddft_x (cap := cap) hr h
    have HS : Hid (Prs w) := hs
    clear hr hs
    go_enter Tryd.func3, Tryd.ntmps3
    go_upto_region 4 with (first | (go_at_call 5; (with_reducible refine (hz _).mono ?_); rintro e w' ⟨rfl, hw⟩; obtain rfl := hw.symm) | (go_at_call 6; refine hd.mono ?_; rintro e w1 ⟨u, q, xs, p, bk, rfl, hq, ho, hb1⟩; have F1 : Hid (Il w1 u q xs) := il_of_own ho; have B1 : Hid (Below w.heap.size w w1) := hb1; have S1 : Hid (Prs w1) := HS.out.below hb1; clear hb1 ho))
    clear hd hz
    by_cases hg : GF q xs p
    · obtain ⟨ys, j1, j2, j3, j4, _⟩ := dft_more hg
      have HXS : Hid (∀ k, k < q → 0 ≤ xs k ∧ xs k ≤ p - 1) := hg.2.1.2
      have hqb : 1 ≤ q := by have := hg.2.2.bounds; omega
      have hpb := hg.1.bounds
      have J1 : Hid _ := j1
      have J2 : Hid _ := j2
      have J3 : Hid _ := j3
      have HY : Hid (ys 0 = smr xs p q) := j4
      clear hg j1 j2 j3 j4
      obtain ⟨ao, cp, hue, _, _⟩ := F1.out
      subst hue
      go_wp2_with (first
      | (go_at_call 7; (fail_if_success have := M1); (with_reducible refine (J1.out _ _ S1.out F1.out).mono ?_); rintro e w2 ⟨wv, rfl, ho2, hb2⟩; have M1 : Hid True := trivial; have O2 : Hid (w2.ownsRow w1.heap.size 3 1 wv q (ils ys q)) := ho2; have B2 : Hid (Below w.heap.size w w2) := bstep B1.out hb2; have G2 : Hid (Below w1.heap.size w1 w2) := hb2; clear ho2 hb2)
      | (go_at_call 8; (with_reducible refine (J2.out _ _ (Il.below F1.out G2.out)).mono ?_); rintro e w3 ⟨tv, rfl, ho3, hb3⟩; have O3 : Hid (w3.ownsRow w1.heap.size 3 1 wv q (ils ys q)) := own_below O2.out hb3; have B3 : Hid (Below w.heap.size w w3) := bstep B2.out hb3; have G3 : Hid (Below w1.heap.size w1 w3) := bstep G2.out hb3; clear ho3 hb3)
      | (go_at_call 7; have Z := M1; (with_reducible refine (J3.out _ _ (S1.out.below G3.out) (il_of_own O3.out)).mono ?_); rintro e w5 ⟨av, rfl, ho5, hb5⟩; have O5 : Hid (Il w5 av q xs) := il_of_own ho5; have B5 : Hid (Below w.heap.size w w5) := bstep B3.out hb5; have G5 : Hid (Below w1.heap.size w1 w5) := bstep G3.out hb5; have O6 : Hid (w5.ownsRow w1.heap.size 3 1 wv q (ils ys q)) := own_below O3.out hb5; clear ho5 hb5))
      rcases O6.out.2 with ⟨_, h0⟩ | ⟨gf, cf, cur, hwv, hbf, hgf, hcf, hrest⟩
      · exfalso; omega
      have hlf : gf < w5.heap.size := (Array.getElem?_eq_some_iff.1 hgf).1
      subst hwv
      have hcf0 : w5.cell? ⟨gf, 0, none⟩ = some (.int .i64 (smr xs p q)) := by
        have := O6.out.cellAt 0 (by omega)
        rw [ils_get (by omega), HY.out] at this
        exact this
      have CF : Hid (w5.cell? ⟨gf, 0, none⟩ = some (.int .i64 (smr xs p q))) := hcf0
      clear hcf0 hrest hgf
      obtain ⟨b0, of0, rfl, hl0, c0⟩ := (Il.below F1.out G5.out).at (by omega)
      have C0 : Hid (∀ k, k < q → w5.cell? ⟨b0, of0 + k, none⟩ = some (.int .i64 (xs k))) := c0
      clear c0
      go_loopw [14, 15] (fun sv i wr => ∃ k : Nat, i = .int .i64 k ∧ sv = .int .i64 (smr xs p k) ∧ k ≤ q ∧ wr = w5) (fun _ i _ => q - (intOf i).toNat)
      case atStart => exact ⟨0, rfl, rfl, by omega, rfl⟩
      case round =>
        obtain ⟨k, rfl, rfl, hk, rfl⟩ := hrel
        by_cases h1 : k < q
        · have d0 := C0.out k h1
          have x1 := HXS.out k h1
          have s1 := smr_bounds (xs := xs) (p := p) (by omega) k
          obtain ⟨S, hS⟩ : ∃ S, S = smr xs p k := ⟨_, rfl⟩
          have HSS : Hid (S = smr xs p k) := hS
          rw [← hS] at s1 ⊢
          clear hS
          go_wp2
          go_roundw
          case rel => exact ⟨k + 1, by go_num, congrArg (Value.int .i64) (by rw [smr, ← HSS.out]), by omega, by trivial⟩
          case measure => simp [intOf]; omega
        · obtain rfl : k = q := by omega
          obtain ⟨S, hS⟩ : ∃ S, S = smr xs p k := ⟨_, rfl⟩
          rw [← hS]
          have CF2 : Hid (wr.cell? ⟨gf, 0, none⟩ = some (.int .i64 S)) := by rw [hS]; exact CF
          clear hS
          go_wp2_with (go_at_call 9; refine (eq_yes O5.out (Il.below F1.out G5.out) (by omega)).mono ?_; rintro e w7 ⟨rfl, hb7⟩; have cf0 := (hb7.cell (p := ⟨gf, 0, none⟩) hlf).trans CF2.out; have B7 : Hid (Below w.heap.size w w7) := bstep B5.out hb7; clear hb7)
          go_ret
          exact ⟨rfl, B7.out⟩
    · obtain ⟨j1, j2⟩ := dft_no (by omega) hg
      obtain ⟨ys, hys⟩ : ∃ ys : Nat → Int, ys = fun _ => 0 := ⟨_, rfl⟩
      rw [← hys] at j1 j2
      have J1 : Hid _ := j1
      have J2 : Hid _ := j2
      clear hg j1 j2 hys
      obtain ⟨ao, cp, hue, _, _⟩ := F1.out
      subst hue
      go_wp2_with (first
      | (go_at_call 7; (fail_if_success have := M1); (with_reducible refine (J1.out _ _ S1.out F1.out).mono ?_); rintro e w2 ⟨wv, rfl, ho2, hb2⟩; have M1 : Hid True := trivial; have O2 : Hid (w2.ownsRow w1.heap.size 3 1 wv 0 (ils ys 0)) := ho2; have B2 : Hid (Below w.heap.size w w2) := bstep B1.out hb2; have G2 : Hid (Below w1.heap.size w1 w2) := hb2; clear ho2 hb2)
      | (go_at_call 8; (with_reducible refine (J2.out _ _ (Il.below F1.out G2.out)).mono ?_); rintro e w3 ⟨tv, rfl, ho3, hb3⟩; have O3 : Hid (w3.ownsRow w1.heap.size 3 1 wv 0 (ils ys 0)) := own_below O2.out hb3; have B3 : Hid (Below w.heap.size w w3) := bstep B2.out hb3; have G3 : Hid (Below w1.heap.size w1 w3) := bstep G2.out hb3; clear ho3 hb3)
      | (go_at_call 7; have Z := M1; (with_reducible refine (dft_lit (S1.out.below G3.out)).mono ?_); rintro e w5 ⟨xv, rfl, ho5, hb5⟩; have O5 : Hid (Il w5 xv 2 (two 3 167772160)) := il_of_own ho5; have B5 : Hid (Below w.heap.size w w5) := bstep (bstep B3.out (below_one w3 (.cells #[.int .i64 1, .int .i64 2] 3))) hb5; clear ho5 hb5)
      | (go_at_call 9; refine (eq_yes (Il.below O5.out (below_one w5 (.cells #[.int .i64 3, .int .i64 167772160] 3))) (il_two w5 3 167772160) (by omega)).mono ?_; rintro e w6 ⟨rfl, hb6⟩; have B6 : Hid (Below w.heap.size w w6) := bstep (bstep B5.out (below_one w5 (.cells #[.int .i64 3, .int .i64 167772160] 3))) hb6; clear hb6))
      go_ret
      exact ⟨rfl, B6.out⟩
  · rw [decide_eq_true (show (1048576 : Int) < (n : Int) by omega)] at hz
    clear hr hs
    go_enter Tryd.func3, Tryd.ntmps3
    go_wp2_with (go_at_call 5; (with_reducible refine (hz _).mono ?_); rintro e w' ⟨rfl, hw⟩; obtain rfl := hw.symm)
    go_ret
    exact ⟨rfl, Below.refl _ _⟩
end Go.Proofs.YtbbbahbbfaglbaaDoor
