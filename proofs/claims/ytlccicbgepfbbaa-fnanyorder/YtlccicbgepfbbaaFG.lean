/- FnAnyOrder. -/
import Derived.Test.YtlccicbgepfbbaaFX
import Derived.BigRegion
namespace Go.Proofs.Ytlccicbgepfbbaa
open Go.RowKit

set_option maxRecDepth 20000 in
set_option maxHeartbeats 8000000 in
theorem any_x {w : World} {a : Option Addr} {len cap : Nat} (hr : Row w a len) (hl : len ≤ 9223372036854775807) :
    Calls Try.prog 4 #[.slice a len cap] w fun e w' => e = .returned (.bool true) ∧ Below w.heap.size w w' := by
  have HR : Hid (Row w a len) := hr
  have hz := fun W => big_x (w := W) a len cap hl
  clear hr
  by_cases hbig : 1048576 < (len : Int)
  · rw [decide_eq_true hbig] at hz
    clear hbig
    go_enter Try.func4, Try.ntmps4
    go_wp2_with (go_at_call 9; (with_reducible refine (hz _).mono ?_); rintro e w' ⟨rfl, hw⟩; obtain rfl := hw.symm)
    go_ret
    exact ⟨rfl, Below.refl _ _⟩
  · rw [decide_eq_false hbig] at hz
    have HL := shuffle_x (cap := cap) HR.out (by omega)
    clear HR hbig
    go_enter Try.func4, Try.ntmps4
    go_upto_region 4 with (first
      | (go_at_call 9; (with_reducible refine (hz _).mono ?_); rintro e w' ⟨rfl, hw⟩; obtain rfl := hw.symm; clear hz)
      | (go_at_call 18; (with_reducible refine HL.mono ?_); rintro e w1 ⟨N, m, u, p, ss, ts, rfl, hb, ho, hm, hp⟩; have BW : Hid (Below w.heap.size w w1) := hb; have V : Hid (Ow w1 u m ss) := ho; have P : Hid (Il w1 p 60 (fun i => (ts i : Int))) := hp; clear hb ho hp HL))
    rcases cab (ss := ss) N (show m ≤ 1048576 by omega) with ⟨n, r, rfl, hw, hr, hs, hi⟩ | ⟨hs, hi⟩
    · have HW : Hid (Wok (n : Int) m ss) := hw
      have HR : Hid (Lst (wsn ss) n m r) := hr
      have n20 : n ≤ 20 := by have := hw.1; omega
      have al2 : smN n r ≤ 2000 := hr.1.2.2
      have rb : ∀ b, b < n → r b ≤ 2000 := fun b hb => by have := smN_one (f := r) hb; omega
      have RB : Hid (∀ b, b < n → r b ≤ 2000) := rb
      clear hw hr rb
      go_upto_region 10 with (first
        | (go_at_call 13; (with_reducible refine (hs _ _ V.out).mono ?_); rintro e w2 ⟨u1, rfl, ho, hb⟩; have V : Hid (Ow w2 u m ss) := V.out.below hb; have P : Hid (Il w2 p 60 (fun i => (ts i : Int))) := P.out.below hb; have BW : Hid (Below w.heap.size w w2) := bstep BW.out hb; have R : Hid (Il w2 u1 n (fun b => (r b : Int))) := il_of_own ho; clear ho hb hs)
        | (go_at_call 11; (with_reducible refine (hi _ _ V.out).mono ?_); rintro e w3 ⟨u8, rfl, ho, hb⟩; have V : Hid (Ow w3 u m ss) := V.out.below hb; have P : Hid (Il w3 p 60 (fun i => (ts i : Int))) := P.out.below hb; have BW : Hid (Below w.heap.size w w3) := bstep BW.out hb; have R : Hid (Il w3 u1 n (fun b => (r b : Int))) := R.out.below hb; have Q : Hid (Il w3 u8 n (fun b => (r b : Int))) := il_of_own ho; clear ho hb hi)
        | (go_at_call 15; (with_reducible refine (same_yes Q.out R.out (by omega) (fun _ _ => rfl)).mono ?_); rintro e w4 ⟨rfl, hb⟩; have V : Hid (Ow w4 u m ss) := V.out.below hb; have P : Hid (Il w4 p 60 (fun i => (ts i : Int))) := P.out.below hb; have BW : Hid (Below w.heap.size w w4) := bstep BW.out hb; have R : Hid (Il w4 u1 n (fun b => (r b : Int))) := R.out.below hb; have i1 := R.out; obtain ⟨ra, rc, rfl, q1, q2⟩ := i1; clear q1 q2 hb))
      have C1 := il_cells R.out
      have HC1 : Hid (0 < n → ∃ b off, ra = some ⟨b, off, none⟩ ∧ b < w4.heap.size ∧ ∀ k, k < n → w4.cell? ⟨b, off + k, none⟩ = some (.int .i64 ((r k : Nat) : Int))) := C1
      clear C1
      go_loopw [11, 10] (fun i x wr => wr = w4 ∧ ∃ k : Nat, i = .int .i64 k ∧ k ≤ n ∧ x = .int .i64 ((smN k r : Nat) : Int)) (fun i _ _ => n - (intOf i).toNat)
      case atStart => exact ⟨rfl, 0, rfl, by omega, rfl⟩
      case round =>
        obtain ⟨rfl, k, rfl, hk, rfl⟩ := hrel
        by_cases h1 : k < n
        · obtain ⟨b, off, rfl, hlt, hcell⟩ := HC1.out (by omega)
          have c1 := hcell k h1
          have r1 := RB.out k h1
          have r2 : smN k r ≤ 2000 * k := by
            have : smN k r ≤ smN k (fun _ => 2000) := smN_le fun j hj => RB.out j (by omega)
            rw [smN_const] at this
            omega
          have r3 := smN_int k r
          have R3 : Hid (((smN (k + 1) r : Nat) : Int) = (smN k r : Int) + (r k : Int)) := r3
          clear hcell r3
          generalize smN k r = sk at r2 R3 ⊢
          go_wp2
          go_roundw
          case rel => exact ⟨trivial, k + 1, by go_num, by omega, by rw [R3.out]⟩
          case measure => simp [intOf]; omega
        · have hkn : n = k := by omega
          subst hkn
          by_cases h6 : smN n r ≤ 60
          · have NT : Hid (Net (n : Int) n m ss r) := ⟨rfl, HW.out, HR.out, h6⟩
            clear HW HR RB HC1
            generalize smN n r = al at h6 al2
            go_wp2_with (first
              | (go_at_call 12; (with_reducible refine (line_or NT.out V.out).mono ?_); rintro e w5 ⟨u2, K, y, d, rfl, i2, hb, hd⟩; have V : Hid (Ow w5 _ _ _) := V.out.below hb; have R : Hid (Il w5 _ _ _) := R.out.below hb; have P : Hid (Il w5 _ _ _) := P.out.below hb; have BW : Hid (Below w.heap.size w w5) := bstep BW.out hb; have J2 : Hid (Il w5 u2 K y) := i2; obtain ⟨la, lc, rfl, q1, q2⟩ := i2; clear q1 q2 hb; rcases hd with ⟨rfl, LK⟩ | ⟨rfl, rfl, KS⟩)
              | (go_at_call 19; have LK : Hid _ := LK; (with_reducible refine (chosen_net NT.out V.out R.out P.out LK.out).mono ?_); rintro e w6 ⟨u3, t, y3, lf, rfl, i3, hb, ch, t6, ts⟩; have V : Hid (Ow w6 _ _ _) := V.out.below hb; have R : Hid (Il w6 _ _ _) := R.out.below hb; have P : Hid (Il w6 _ _ _) := P.out.below hb; have BW : Hid (Below w.heap.size w w6) := bstep BW.out hb; have J2 : Hid (Il w6 _ K y) := J2.out.below hb; have J3 : Hid (Il w6 u3 t y3) := i3; have CH : Hid _ := ch; have TS : Hid (smN _ _ ≤ t) := ts; clear i3 ch hb ts)
              | (go_at_call 19; have KS : Hid _ := KS; (with_reducible refine (chosen_stk NT.out V.out R.out P.out KS.out).mono ?_); rintro e w6 ⟨u3, rfl, hb⟩; have V : Hid (Ow w6 _ _ _) := V.out.below hb; have R : Hid (Il w6 _ _ _) := R.out.below hb; have P : Hid (Il w6 _ _ _) := P.out.below hb; have BW : Hid (Below w.heap.size w w6) := bstep BW.out hb; clear hb)
              | (go_at_call 16; (fail_if_success have := MF); (with_reducible refine (fire_line NT.out V.out LK.out J2.out).mono ?_); rintro e w7 ⟨u4, rfl, i4, hb⟩; have V : Hid (Ow w7 _ _ _) := V.out.below hb; have R : Hid (Il w7 _ _ _) := R.out.below hb; have P : Hid (Il w7 _ _ _) := P.out.below hb; have BW : Hid (Below w.heap.size w w7) := bstep BW.out hb; have J2 : Hid (Il w7 _ K y) := J2.out.below hb; have J3 : Hid (Il w7 u3 t y3) := J3.out.below hb; have J4 : Hid (Il w7 u4 _ _) := i4; have MF : Hid True := trivial; clear i4 hb)
              | (go_at_call 16; (with_reducible refine (fire_chs NT.out V.out CH.out t6 TS.out J3.out).mono ?_); rintro e w8 ⟨u5, rfl, i5, hb⟩; have V : Hid (Ow w8 _ _ _) := V.out.below hb; have R : Hid (Il w8 _ _ _) := R.out.below hb; have P : Hid (Il w8 _ _ _) := P.out.below hb; have BW : Hid (Below w.heap.size w w8) := bstep BW.out hb; have J2 : Hid (Il w8 _ K y) := J2.out.below hb; have J3 : Hid (Il w8 u3 t y3) := J3.out.below hb; have J4 : Hid (Il w8 u4 _ _) := J4.out.below hb; have J5 : Hid (Il w8 u5 _ _) := i5; clear i5 hb)
              | (go_at_call 15; (fail_if_success have := MS); (with_reducible refine (same_yes J4.out J5.out (by omega) (fun _ _ => rfl)).mono ?_); rintro e w9 ⟨rfl, hb⟩; have V : Hid (Ow w9 _ _ _) := V.out.below hb; have R : Hid (Il w9 _ _ _) := R.out.below hb; have P : Hid (Il w9 _ _ _) := P.out.below hb; have BW : Hid (Below w.heap.size w w9) := bstep BW.out hb; have J2 : Hid (Il w9 _ K y) := J2.out.below hb; have J3 : Hid (Il w9 u3 t y3) := J3.out.below hb; have MS : Hid True := trivial; clear hb)
              | (go_at_call 17; (fail_if_success have := MT); (with_reducible refine (times_line NT.out LK.out J2.out).mono ?_); rintro e w10 ⟨u6, rfl, i6, hb⟩; have V : Hid (Ow w10 _ _ _) := V.out.below hb; have R : Hid (Il w10 _ _ _) := R.out.below hb; have P : Hid (Il w10 _ _ _) := P.out.below hb; have BW : Hid (Below w.heap.size w w10) := bstep BW.out hb; have J3 : Hid (Il w10 u3 t y3) := J3.out.below hb; have J6 : Hid (Il w10 u6 _ _) := i6; have MT : Hid True := trivial; clear i6 hb)
              | (go_at_call 17; (with_reducible refine (times_chs NT.out CH.out t6 TS.out J3.out).mono ?_); rintro e w11 ⟨u7, rfl, i7, hb⟩; have V : Hid (Ow w11 _ _ _) := V.out.below hb; have R : Hid (Il w11 _ _ _) := R.out.below hb; have P : Hid (Il w11 _ _ _) := P.out.below hb; have BW : Hid (Below w.heap.size w w11) := bstep BW.out hb; have J6 : Hid (Il w11 u6 _ _) := J6.out.below hb; have J7 : Hid (Il w11 u7 _ _) := i7; clear i7 hb)
              | (go_at_call 15; (with_reducible refine (same_yes J6.out J7.out (by omega) (fun _ _ => rfl)).mono ?_); rintro e w12 ⟨rfl, hb⟩; have V : Hid (Ow w12 _ _ _) := V.out.below hb; have R : Hid (Il w12 _ _ _) := R.out.below hb; have P : Hid (Il w12 _ _ _) := P.out.below hb; have BW : Hid (Below w.heap.size w w12) := bstep BW.out hb; clear hb))
            all_goals
              go_ret
              exact ⟨rfl, BW.out⟩
          · clear HW HR RB HC1
            generalize smN n r = al at h6 al2
            have V : Hid (Ow ((wr.alloc (.cells #[.int .i64 0, .int .i64 1, .int .i64 2, .int .i64 1, .int .i64 0] 31)).alloc (.cells #[.int .i64 1, .int .i64 2] 3)) (.slice (some ⟨wr.heap.size, 0, none⟩) 1 1) 1 ss2) := (two_ow wr).below (below_one _ _)
            have R : Hid (Il ((wr.alloc (.cells #[.int .i64 0, .int .i64 1, .int .i64 2, .int .i64 1, .int .i64 0] 31)).alloc (.cells #[.int .i64 1, .int .i64 2] 3)) (.slice (some ⟨wr.heap.size + 1, 0, none⟩) 2 2) 2 (fun b => (rr2 b : Int))) := by have h := two_il (wr.alloc (.cells #[.int .i64 0, .int .i64 1, .int .i64 2, .int .i64 1, .int .i64 0] 31)); rw [show (wr.alloc (.cells #[.int .i64 0, .int .i64 1, .int .i64 2, .int .i64 1, .int .i64 0] 31)).heap.size = wr.heap.size + 1 by simp] at h; exact h
            have P : Hid (Il ((wr.alloc (.cells #[.int .i64 0, .int .i64 1, .int .i64 2, .int .i64 1, .int .i64 0] 31)).alloc (.cells #[.int .i64 1, .int .i64 2] 3)) p 60 (fun i => (ts i : Int))) := (P.out.below (below_one _ _)).below (below_one _ _)
            have BW : Hid (Below w.heap.size w ((wr.alloc (.cells #[.int .i64 0, .int .i64 1, .int .i64 2, .int .i64 1, .int .i64 0] 31)).alloc (.cells #[.int .i64 1, .int .i64 2] 3))) := bstep (bstep BW.out (below_one _ _)) (below_one _ _)
            have NT : Hid (Net 2 2 1 ss2 rr2) := two_net
            go_wp2_with (first
              | (go_at_call 12; (with_reducible refine (line_or NT.out V.out).mono ?_); rintro e w5 ⟨u2, K, y, d, rfl, i2, hb, hd⟩; have V : Hid (Ow w5 _ _ _) := V.out.below hb; have R : Hid (Il w5 _ _ _) := R.out.below hb; have P : Hid (Il w5 _ _ _) := P.out.below hb; have BW : Hid (Below w.heap.size w w5) := bstep BW.out hb; have J2 : Hid (Il w5 u2 K y) := i2; obtain ⟨la, lc, rfl, q1, q2⟩ := i2; clear q1 q2 hb; rcases hd with ⟨rfl, LK⟩ | ⟨rfl, rfl, KS⟩)
              | (go_at_call 19; have LK : Hid _ := LK; (with_reducible refine (chosen_net NT.out V.out R.out P.out LK.out).mono ?_); rintro e w6 ⟨u3, t, y3, lf, rfl, i3, hb, ch, t6, ts⟩; have V : Hid (Ow w6 _ _ _) := V.out.below hb; have R : Hid (Il w6 _ _ _) := R.out.below hb; have P : Hid (Il w6 _ _ _) := P.out.below hb; have BW : Hid (Below w.heap.size w w6) := bstep BW.out hb; have J2 : Hid (Il w6 _ K y) := J2.out.below hb; have J3 : Hid (Il w6 u3 t y3) := i3; have CH : Hid _ := ch; have TS : Hid (smN _ _ ≤ t) := ts; clear i3 ch hb ts)
              | (go_at_call 19; have KS : Hid _ := KS; (with_reducible refine (chosen_stk NT.out V.out R.out P.out KS.out).mono ?_); rintro e w6 ⟨u3, rfl, hb⟩; have V : Hid (Ow w6 _ _ _) := V.out.below hb; have R : Hid (Il w6 _ _ _) := R.out.below hb; have P : Hid (Il w6 _ _ _) := P.out.below hb; have BW : Hid (Below w.heap.size w w6) := bstep BW.out hb; clear hb)
              | (go_at_call 16; (fail_if_success have := MF); (with_reducible refine (fire_line NT.out V.out LK.out J2.out).mono ?_); rintro e w7 ⟨u4, rfl, i4, hb⟩; have V : Hid (Ow w7 _ _ _) := V.out.below hb; have R : Hid (Il w7 _ _ _) := R.out.below hb; have P : Hid (Il w7 _ _ _) := P.out.below hb; have BW : Hid (Below w.heap.size w w7) := bstep BW.out hb; have J2 : Hid (Il w7 _ K y) := J2.out.below hb; have J3 : Hid (Il w7 u3 t y3) := J3.out.below hb; have J4 : Hid (Il w7 u4 _ _) := i4; have MF : Hid True := trivial; clear i4 hb)
              | (go_at_call 16; (with_reducible refine (fire_chs NT.out V.out CH.out t6 TS.out J3.out).mono ?_); rintro e w8 ⟨u5, rfl, i5, hb⟩; have V : Hid (Ow w8 _ _ _) := V.out.below hb; have R : Hid (Il w8 _ _ _) := R.out.below hb; have P : Hid (Il w8 _ _ _) := P.out.below hb; have BW : Hid (Below w.heap.size w w8) := bstep BW.out hb; have J2 : Hid (Il w8 _ K y) := J2.out.below hb; have J3 : Hid (Il w8 u3 t y3) := J3.out.below hb; have J4 : Hid (Il w8 u4 _ _) := J4.out.below hb; have J5 : Hid (Il w8 u5 _ _) := i5; clear i5 hb)
              | (go_at_call 15; (fail_if_success have := MS); (with_reducible refine (same_yes J4.out J5.out (by omega) (fun _ _ => rfl)).mono ?_); rintro e w9 ⟨rfl, hb⟩; have V : Hid (Ow w9 _ _ _) := V.out.below hb; have R : Hid (Il w9 _ _ _) := R.out.below hb; have P : Hid (Il w9 _ _ _) := P.out.below hb; have BW : Hid (Below w.heap.size w w9) := bstep BW.out hb; have J2 : Hid (Il w9 _ K y) := J2.out.below hb; have J3 : Hid (Il w9 u3 t y3) := J3.out.below hb; have MS : Hid True := trivial; clear hb)
              | (go_at_call 17; (fail_if_success have := MT); (with_reducible refine (times_line NT.out LK.out J2.out).mono ?_); rintro e w10 ⟨u6, rfl, i6, hb⟩; have V : Hid (Ow w10 _ _ _) := V.out.below hb; have R : Hid (Il w10 _ _ _) := R.out.below hb; have P : Hid (Il w10 _ _ _) := P.out.below hb; have BW : Hid (Below w.heap.size w w10) := bstep BW.out hb; have J3 : Hid (Il w10 u3 t y3) := J3.out.below hb; have J6 : Hid (Il w10 u6 _ _) := i6; have MT : Hid True := trivial; clear i6 hb)
              | (go_at_call 17; (with_reducible refine (times_chs NT.out CH.out t6 TS.out J3.out).mono ?_); rintro e w11 ⟨u7, rfl, i7, hb⟩; have V : Hid (Ow w11 _ _ _) := V.out.below hb; have R : Hid (Il w11 _ _ _) := R.out.below hb; have P : Hid (Il w11 _ _ _) := P.out.below hb; have BW : Hid (Below w.heap.size w w11) := bstep BW.out hb; have J6 : Hid (Il w11 u6 _ _) := J6.out.below hb; have J7 : Hid (Il w11 u7 _ _) := i7; clear i7 hb)
              | (go_at_call 15; (with_reducible refine (same_yes J6.out J7.out (by omega) (fun _ _ => rfl)).mono ?_); rintro e w12 ⟨rfl, hb⟩; have V : Hid (Ow w12 _ _ _) := V.out.below hb; have R : Hid (Il w12 _ _ _) := R.out.below hb; have P : Hid (Il w12 _ _ _) := P.out.below hb; have BW : Hid (Below w.heap.size w w12) := bstep BW.out hb; clear hb))
            all_goals
              go_ret
              exact ⟨rfl, BW.out⟩
    · go_upto_region 10 with (first
        | (go_at_call 13; (with_reducible refine (hs _ _ V.out).mono ?_); rintro e w2 ⟨u1, rfl, ho, hb⟩; have V : Hid (Ow w2 u m ss) := V.out.below hb; have P : Hid (Il w2 p 60 (fun i => (ts i : Int))) := P.out.below hb; have BW : Hid (Below w.heap.size w w2) := bstep BW.out hb; have R : Hid (Il w2 u1 0 (fun _ => 0)) := il_of_own ho; clear ho hb hs)
        | (go_at_call 11; (with_reducible refine (hi _ _ V.out).mono ?_); rintro e w3 ⟨u8, rfl, ho, hb⟩; have V : Hid (Ow w3 u m ss) := V.out.below hb; have P : Hid (Il w3 p 60 (fun i => (ts i : Int))) := P.out.below hb; have BW : Hid (Below w.heap.size w w3) := bstep BW.out hb; have R : Hid (Il w3 u1 0 (fun _ => 0)) := R.out.below hb; have Q : Hid (Il w3 u8 0 (fun _ => 0)) := il_of_own ho; clear ho hb hi)
        | (go_at_call 15; (with_reducible refine (same_yes Q.out R.out (by omega) (fun _ _ => rfl)).mono ?_); rintro e w4 ⟨rfl, hb⟩; have V : Hid (Ow w4 u m ss) := V.out.below hb; have P : Hid (Il w4 p 60 (fun i => (ts i : Int))) := P.out.below hb; have BW : Hid (Below w.heap.size w w4) := bstep BW.out hb; have R : Hid (Il w4 u1 0 (fun _ => 0)) := R.out.below hb; have i1 := R.out; obtain ⟨ra, rc, rfl, q1, q2⟩ := i1; clear q1 q2 hb))
      go_loopw [11, 10] (fun i x wr => wr = w4 ∧ i = .int .i64 0 ∧ x = .int .i64 0) (fun _ _ _ => 0)
      case atStart => exact ⟨rfl, rfl, rfl⟩
      case round =>
        obtain ⟨rfl, rfl, rfl⟩ := hrel
        have V : Hid (Ow ((wr.alloc (.cells #[.int .i64 0, .int .i64 1, .int .i64 2, .int .i64 1, .int .i64 0] 31)).alloc (.cells #[.int .i64 1, .int .i64 2] 3)) (.slice (some ⟨wr.heap.size, 0, none⟩) 1 1) 1 ss2) := (two_ow wr).below (below_one _ _)
        have R : Hid (Il ((wr.alloc (.cells #[.int .i64 0, .int .i64 1, .int .i64 2, .int .i64 1, .int .i64 0] 31)).alloc (.cells #[.int .i64 1, .int .i64 2] 3)) (.slice (some ⟨wr.heap.size + 1, 0, none⟩) 2 2) 2 (fun b => (rr2 b : Int))) := by have h := two_il (wr.alloc (.cells #[.int .i64 0, .int .i64 1, .int .i64 2, .int .i64 1, .int .i64 0] 31)); rw [show (wr.alloc (.cells #[.int .i64 0, .int .i64 1, .int .i64 2, .int .i64 1, .int .i64 0] 31)).heap.size = wr.heap.size + 1 by simp] at h; exact h
        have P : Hid (Il ((wr.alloc (.cells #[.int .i64 0, .int .i64 1, .int .i64 2, .int .i64 1, .int .i64 0] 31)).alloc (.cells #[.int .i64 1, .int .i64 2] 3)) p 60 (fun i => (ts i : Int))) := (P.out.below (below_one _ _)).below (below_one _ _)
        have BW : Hid (Below w.heap.size w ((wr.alloc (.cells #[.int .i64 0, .int .i64 1, .int .i64 2, .int .i64 1, .int .i64 0] 31)).alloc (.cells #[.int .i64 1, .int .i64 2] 3))) := bstep (bstep BW.out (below_one _ _)) (below_one _ _)
        have NT : Hid (Net 2 2 1 ss2 rr2) := two_net
        go_wp2_with (first
          | (go_at_call 12; (with_reducible refine (line_or NT.out V.out).mono ?_); rintro e w5 ⟨u2, K, y, d, rfl, i2, hb, hd⟩; have V : Hid (Ow w5 _ _ _) := V.out.below hb; have R : Hid (Il w5 _ _ _) := R.out.below hb; have P : Hid (Il w5 _ _ _) := P.out.below hb; have BW : Hid (Below w.heap.size w w5) := bstep BW.out hb; have J2 : Hid (Il w5 u2 K y) := i2; obtain ⟨la, lc, rfl, q1, q2⟩ := i2; clear q1 q2 hb; rcases hd with ⟨rfl, LK⟩ | ⟨rfl, rfl, KS⟩)
          | (go_at_call 19; have LK : Hid _ := LK; (with_reducible refine (chosen_net NT.out V.out R.out P.out LK.out).mono ?_); rintro e w6 ⟨u3, t, y3, lf, rfl, i3, hb, ch, t6, ts⟩; have V : Hid (Ow w6 _ _ _) := V.out.below hb; have R : Hid (Il w6 _ _ _) := R.out.below hb; have P : Hid (Il w6 _ _ _) := P.out.below hb; have BW : Hid (Below w.heap.size w w6) := bstep BW.out hb; have J2 : Hid (Il w6 _ K y) := J2.out.below hb; have J3 : Hid (Il w6 u3 t y3) := i3; have CH : Hid _ := ch; have TS : Hid (smN _ _ ≤ t) := ts; clear i3 ch hb ts)
          | (go_at_call 19; have KS : Hid _ := KS; (with_reducible refine (chosen_stk NT.out V.out R.out P.out KS.out).mono ?_); rintro e w6 ⟨u3, rfl, hb⟩; have V : Hid (Ow w6 _ _ _) := V.out.below hb; have R : Hid (Il w6 _ _ _) := R.out.below hb; have P : Hid (Il w6 _ _ _) := P.out.below hb; have BW : Hid (Below w.heap.size w w6) := bstep BW.out hb; clear hb)
          | (go_at_call 16; (fail_if_success have := MF); (with_reducible refine (fire_line NT.out V.out LK.out J2.out).mono ?_); rintro e w7 ⟨u4, rfl, i4, hb⟩; have V : Hid (Ow w7 _ _ _) := V.out.below hb; have R : Hid (Il w7 _ _ _) := R.out.below hb; have P : Hid (Il w7 _ _ _) := P.out.below hb; have BW : Hid (Below w.heap.size w w7) := bstep BW.out hb; have J2 : Hid (Il w7 _ K y) := J2.out.below hb; have J3 : Hid (Il w7 u3 t y3) := J3.out.below hb; have J4 : Hid (Il w7 u4 _ _) := i4; have MF : Hid True := trivial; clear i4 hb)
          | (go_at_call 16; (with_reducible refine (fire_chs NT.out V.out CH.out t6 TS.out J3.out).mono ?_); rintro e w8 ⟨u5, rfl, i5, hb⟩; have V : Hid (Ow w8 _ _ _) := V.out.below hb; have R : Hid (Il w8 _ _ _) := R.out.below hb; have P : Hid (Il w8 _ _ _) := P.out.below hb; have BW : Hid (Below w.heap.size w w8) := bstep BW.out hb; have J2 : Hid (Il w8 _ K y) := J2.out.below hb; have J3 : Hid (Il w8 u3 t y3) := J3.out.below hb; have J4 : Hid (Il w8 u4 _ _) := J4.out.below hb; have J5 : Hid (Il w8 u5 _ _) := i5; clear i5 hb)
          | (go_at_call 15; (fail_if_success have := MS); (with_reducible refine (same_yes J4.out J5.out (by omega) (fun _ _ => rfl)).mono ?_); rintro e w9 ⟨rfl, hb⟩; have V : Hid (Ow w9 _ _ _) := V.out.below hb; have R : Hid (Il w9 _ _ _) := R.out.below hb; have P : Hid (Il w9 _ _ _) := P.out.below hb; have BW : Hid (Below w.heap.size w w9) := bstep BW.out hb; have J2 : Hid (Il w9 _ K y) := J2.out.below hb; have J3 : Hid (Il w9 u3 t y3) := J3.out.below hb; have MS : Hid True := trivial; clear hb)
          | (go_at_call 17; (fail_if_success have := MT); (with_reducible refine (times_line NT.out LK.out J2.out).mono ?_); rintro e w10 ⟨u6, rfl, i6, hb⟩; have V : Hid (Ow w10 _ _ _) := V.out.below hb; have R : Hid (Il w10 _ _ _) := R.out.below hb; have P : Hid (Il w10 _ _ _) := P.out.below hb; have BW : Hid (Below w.heap.size w w10) := bstep BW.out hb; have J3 : Hid (Il w10 u3 t y3) := J3.out.below hb; have J6 : Hid (Il w10 u6 _ _) := i6; have MT : Hid True := trivial; clear i6 hb)
          | (go_at_call 17; (with_reducible refine (times_chs NT.out CH.out t6 TS.out J3.out).mono ?_); rintro e w11 ⟨u7, rfl, i7, hb⟩; have V : Hid (Ow w11 _ _ _) := V.out.below hb; have R : Hid (Il w11 _ _ _) := R.out.below hb; have P : Hid (Il w11 _ _ _) := P.out.below hb; have BW : Hid (Below w.heap.size w w11) := bstep BW.out hb; have J6 : Hid (Il w11 u6 _ _) := J6.out.below hb; have J7 : Hid (Il w11 u7 _ _) := i7; clear i7 hb)
          | (go_at_call 15; (with_reducible refine (same_yes J6.out J7.out (by omega) (fun _ _ => rfl)).mono ?_); rintro e w12 ⟨rfl, hb⟩; have V : Hid (Ow w12 _ _ _) := V.out.below hb; have R : Hid (Il w12 _ _ _) := R.out.below hb; have P : Hid (Il w12 _ _ _) := P.out.below hb; have BW : Hid (Below w.heap.size w w12) := bstep BW.out hb; clear hb))
        all_goals
          go_ret
          exact ⟨rfl, BW.out⟩

end Go.Proofs.Ytlccicbgepfbbaa
