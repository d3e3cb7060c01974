/- FnCic: the law. -/
import Derived.Test.YtnhkiknmbjaafaaQM
import Derived.Test.YtnhkiknmbjaafaaQH
import Derived.Test.YtnhkiknmbjaafaaQB
namespace Go.Proofs.Ytnhkiknmbjaafaa
open Go.RowKit

/-- 1, 2, 3, 4 and 3, 7. -/
def l4 (i : Nat) : Int := if i = 0 then 1 else if i = 1 then 2 else if i = 2 then 3 else 4
def l37 (i : Nat) : Int := if i = 0 then 3 else 7

theorem lit4 (W : World) : Il (W.alloc (.cells #[.int .i64 1, .int .i64 2, .int .i64 3, .int .i64 4] 3)) (.slice (some ⟨W.heap.size, 0, none⟩) 4 4) 4 l4 :=
  il_of_own (xs := l4) (World.ownsRow_lit (base := W.heap.size) (e := 3) (size := 1) W #[.int .i64 1, .int .i64 2, .int .i64 3, .int .i64 4] 4 (Nat.le_refl _) (by unfold maxLen; omega) rfl)

theorem lit37 (W : World) : Il (W.alloc (.cells #[.int .i64 3, .int .i64 7] 3)) (.slice (some ⟨W.heap.size, 0, none⟩) 2 2) 2 l37 :=
  il_of_own (xs := l37) (World.ownsRow_lit (base := W.heap.size) (e := 3) (size := 1) W #[.int .i64 3, .int .i64 7] 2 (Nat.le_refl _) (by unfold maxLen; omega) rfl)

theorem small_x (W : World) : Calls Try.prog 6 #[.slice (some ⟨W.heap.size, 0, none⟩) 4 4, .int .i64 2, .int .i64 1] (W.alloc (.cells #[.int .i64 1, .int .i64 2, .int .i64 3, .int .i64 4] 3)) fun e w' => ∃ u, e = .returned (.tuple #[u, .bool true]) ∧ Il w' u 2 l37 ∧ Below W.heap.size W w' := by
  have h := iCic_good (n := 4) (m := 2) (s := 1) (lit4 W) ⟨by omega, fun k _ => by unfold l4; split <;> (try split) <;> (try split) <;> omega⟩ (by omega) (by omega) (by omega) (by omega)
  refine h.mono ?_
  rintro e w' ⟨u, rfl, q1, q2⟩
  refine ⟨u, rfl, ?_, bstep (below_one _ _) q2⟩
  have e1 : ils (thn 2 (gtn 2 l4 1)) (4 / 2) = ils l37 (4 / 2) := ils_congr fun i hi => by rcases (show i = 0 ∨ i = 1 by omega) with rfl | rfl <;> decide +kernel
  rw [e1] at q1
  exact il_of_own q1

theorem gf_ones {m n : Nat} {xs : Nat → Int} (h0 : 0 < m) (h1 : m ≤ 16) (hx : Sig n xs) : GF m (m - 1) n (fun _ => 1) (fun _ => 0) xs :=
  ⟨⟨⟨⟨by omega, by omega⟩, fun k _ => by dsimp only; omega⟩, ⟨by omega, fun k _ => by dsimp only; omega⟩, by omega⟩, hx⟩

set_option maxRecDepth 20000 in
set_option maxHeartbeats 4000000 in
theorem walk_cic {w : World} {a : Option Addr} {len cap : Nat} (hr : Row w a len) (hlen : len ≤ 9223372036854775807) : Calls Try.prog 3 #[.slice a len cap] w fun e w' => e = .returned (.bool true) ∧ Below w.heap.size w w' := by
  obtain ⟨i0, hi, hz0, hz1, hz2⟩ := info_parts Try.info3
  have ib := big_x (w := w) a len cap hlen
  by_cases hl : len ≤ 1048576
  · rw [decide_eq_false (by omega)] at ib
    have id' := dcic_x (cap := cap) hr hl
    clear hr
    go_enter Try.func3, Try.ntmps3
    go_wp2_with (first
      | (go_at_call 4; (with_reducible refine ib.mono ?_); rintro e w' ⟨rfl, hw⟩; obtain rfl := hw.symm)
      | (go_at_call 5; (with_reducible refine id'.mono ?_); rintro e w1 ⟨lv, r, s, rfl, hq⟩))
    obtain ⟨⟨n, xs, B, hn, hx⟩, hb⟩ := hq.out
    have HO : Hid (w1.ownsRow B 3 1 lv n (ils xs n)) := hx
    have B1 : Hid (Below w.heap.size w w1) := hb
    clear hx hb hq id' ib
    by_cases hg : GC n xs r s
    · have hr0 := hg.2.1
      have hs0 := hg.2.2
      have HW : Hid (n ≤ 512 ∧ Wth 32767 n xs) := hg.1
      obtain ⟨m, rfl⟩ : ∃ m : Nat, r = (m : Int) := ⟨r.toNat, by omega⟩
      obtain ⟨k, rfl⟩ : ∃ k : Nat, s = (k : Int) := ⟨s.toNat, by omega⟩
      have m1 : 1 ≤ m := by omega
      have m2 : m ≤ 32 := by omega
      have k1 : 1 ≤ k := by omega
      have k2 : k ≤ 5 := by omega
      clear hg hr0 hs0
      by_cases h16 : m ≤ 16
      · have h16' : ¬ ((16 : Int) < (m : Int)) := by omega
        go_wp2_with (first
          | (go_at_call 6; (fail_if_success have := M1); refine (iCic_good (il_of_own HO.out) HW.out m1 m2 k1 k2).mono ?_; rintro e w2 ⟨x, rfl, q1, q2⟩; have M1 : Hid True := trivial; have X2 : Hid (Il w2 x (n / m) (thn m (gtn m xs k))) := il_of_own q1; have O2 : Hid (w2.ownsRow B 3 1 lv n (ils xs n)) := own_below HO.out q2; have B2 : Hid (Below w.heap.size w w2) := bstep B1.out q2; clear q1 q2)
          | (go_at_call 7; refine (sCic_good O2.out HW.out m1 m2 k1 k2).mono ?_; rintro e w3 ⟨x3, rfl, q1, q2⟩; have X3 : Hid (Il w3 x (n / m) (thn m (gtn m xs k))) := X2.out.below q2; have O3 : Hid (w3.ownsRow B 3 1 lv n (ils xs n)) := own_below O2.out q2; have B3 : Hid (Below w.heap.size w w3) := bstep B2.out q2; clear q1 q2)
          | (go_at_call 6; have Z := M1; refine (small_x w3).mono ?_; rintro e w4 ⟨y, rfl, q1, q2⟩; have Y4 : Hid (Il w4 y 2 l37) := q1; have B4 : Hid (Below w.heap.size w w4) := bstep B3.out q2; have K4 : Hid (Below w3.heap.size w3 w4) := q2; clear q1 q2)
          | (go_at_call 8; refine (same_yes (Y4.out.below (below_one _ _)) (lit37 w4) (by omega) (fun _ _ => rfl)).mono ?_; rintro e w5 ⟨rfl, q4⟩; have B5 : Hid (Below w.heap.size w w5) := bstep (bstep B4.out (below_one _ _)) q4; have X5 : Hid (Il w5 x (n / m) (thn m (gtn m xs k))) := X3.out.below (bstep (bstep K4.out (below_one _ _)) q4); have L5 : Hid (Il w5 lv n xs) := (il_of_own O3.out).below (bstep (bstep K4.out (below_one _ _)) q4); clear q4))
        have OW : Hid ((w5.alloc (.cells #[] 3)).ownsRow w5.heap.size 3 1 (.slice (some ⟨w5.heap.size, 0, none⟩) 0 0) 0 (ils (fun _ => 1) 0)) := own_empty w5 3 1
        have BL : Hid (Below w5.heap.size w5 (w5.alloc (.cells #[] 3))) := below_one _ _
        generalize w5.alloc (.cells #[] 3) = W at *
        go_loopw [13, 14] (fun o i wr => ∃ j : Nat, i = .int .i64 j ∧ j ≤ m ∧ Hid (wr.ownsRow w5.heap.size 3 1 o j (ils (fun _ => 1) j) ∧ Below w5.heap.size w5 wr)) (fun _ i _ => m - (intOf i).toNat)
        case atStart => exact ⟨0, rfl, by omega, OW.out, BL.out⟩
        case round =>
          obtain ⟨j, rfl, hj, hrel⟩ := hrel
          by_cases h1 : j < m
          · have hb3 := below_one wr (.cells #[.int .i64 1] 3)
            have HO3 := own_below hrel.out.1 hb3
            have HB3 := bstep hrel.out.2 hb3
            clear hb3
            go_wp2_with (first | (at_builtin; refine wpList_append_own _ rfl _ _ 24 rfl w5.heap.size 3 i0 (.int .i64 0) 1 8 Try.underlying24 hi hz0 hz1 hz2 rfl (by decide) _ _ _ rfl HO3 ⟨wr.heap.size, 0, none⟩ 1 1 [.int .i64 1] rfl rfl (one_new _ _ _) (by simp [Value.oneCell']) (by unfold maxLen; omega) (by omega) HB3.size ?_))
            intro v' w7 hown' hgrow _
            have HB4 : Hid (Below w5.heap.size w5 w7) := grown_below HB3 (Nat.le_refl _) HO3 hgrow
            rw [← ils_snoc (fun _ => 1) j] at hown'
            have HO4 : Hid _ := hown'
            clear hown' hgrow HB3 HO3
            go_wp2
            go_roundw
            case rel => exact ⟨j + 1, by go_num, by omega, HO4.out, HB4.out⟩
            case measure => simp [intOf]; omega
          · obtain rfl : j = m := by omega
            rename World => V1
            have I1 : Hid (Il V1 u13 j (fun _ => 1)) := il_of_own hrel.out.1
            have B6 : Hid (Below w.heap.size w V1) := bstep B5.out hrel.out.2
            have X6 : Hid (Il V1 x (n / j) (thn j (gtn j xs k))) := X5.out.below hrel.out.2
            have L6 : Hid (Il V1 lv n (gtn j xs 0)) := L5.out.below hrel.out.2
            have S0 : Hid (Sig n (gtn j xs 0)) := ⟨HW.out.1, fun q hq => by have := HW.out.2 q hq; exact ⟨by show _ ≤ xs q; omega, by show xs q ≤ _; omega⟩⟩
            clear hrel
            go_wp2
            go_loopw [12, 15] (fun o i wr => ∃ q : Nat, i = .int .i64 q ∧ q ≤ k ∧ Hid (Il wr o n (gtn j xs q) ∧ (q < k → Sig n (gtn j xs q)) ∧ Below V1.heap.size V1 wr)) (fun _ i _ => k - (intOf i).toNat)
            case atStart => exact ⟨0, rfl, by omega, L6.out, fun _ => S0.out, Below.refl _ _⟩
            case round =>
              obtain ⟨q, rfl, hq, hrel⟩ := hrel
              by_cases h2 : q < k
              · have NW : Hid (Il wr u12 n (gtn j xs q)) := hrel.out.1
                have SQ : Hid (Sig n (gtn j xs q)) := hrel.out.2.1 h2
                have BV : Hid (Below V1.heap.size V1 wr) := hrel.out.2.2
                have ON : Hid (Il wr u13 j (fun _ => 1)) := I1.out.below BV.out
                have GX : Hid (GF j (j - 1) n (fun _ => 1) (fun _ => 0) (gtn j xs q)) := gf_ones (by omega) h16 SQ.out
                have h512 := SQ.out.1
                clear hrel
                rcases (show (Sig n (gtn j xs (q + 1)) ∨ (¬ Sig n (gtn j xs (q + 1)) ∧ q + 1 < k) ∨ (¬ Sig n (gtn j xs (q + 1)) ∧ q + 1 = k)) by by_cases hS : Sig n (gtn j xs (q + 1)); exact .inl hS; by_cases hq1 : q + 1 < k; exact .inr (.inl ⟨hS, hq1⟩); exact .inr (.inr ⟨hS, by omega⟩)) with hS | ⟨hS, hq1⟩ | ⟨hS, hq1⟩
                · have DS : Hid (decide (Sig n (gtn j xs (q + 1))) = true) := decide_eq_true hS
                  have HS : Hid (q + 1 < k → Sig n (gtn j xs (q + 1))) := fun _ => hS
                  clear hS
                  go_wp2_with (first
                    | (at_make; (fail_if_success have := M2); refine wpList_make_full _ rfl _ _ 24 rfl wr.heap.size 3 i0 (.int .i64 0) 1 Try.underlying24 hi hz0 hz1 .i64 .i64 _ _ (j - 1) rfl rfl (by omega) (by omega) (by rw [hz2]; omega) (by unfold maxLen; omega) (Nat.le_refl _) ?_; intro z2 hown hgrow; have HB2 : Hid (Below wr.heap.size wr z2) := (Below.refl _ _).grown hgrow (Nat.le_refl _) (fun _ h => by cases h); rw [made_ils] at hown; have HI2 : Hid (z2.ownsRow wr.heap.size 3 1 (.slice (some ⟨wr.heap.size, 0, none⟩) (j - 1) (j - 1)) (j - 1) (ils (fun _ => 0) (j - 1))) := hown; have M2 : Hid True := trivial; clear hown hgrow)
                    | (go_at_call 9; refine (iFir_good (ON.out.below HB2.out) HI2.out (NW.out.below HB2.out) GX.out).mono ?_; rintro e z3 ⟨y3, u3, rfl, q1, q2, _, q4⟩; have BZ3 : Hid (Below wr.heap.size wr z3) := bstep HB2.out q4; have Y3 : Hid (Il z3 y3 n (gtn j xs (q + 1))) := (by have := il_of_own q1; rw [ones_gat] at this; exact this); clear q1 q2 q4)
                    | (at_make; have Z := M2; refine wpList_make_full _ rfl _ _ 24 rfl z3.heap.size 3 i0 (.int .i64 0) 1 Try.underlying24 hi hz0 hz1 .i64 .i64 _ _ (j - 1) rfl rfl (by omega) (by omega) (by rw [hz2]; omega) (by unfold maxLen; omega) (Nat.le_refl _) ?_; intro z4 hown hgrow; have HB4 : Hid (Below z3.heap.size z3 z4) := (Below.refl _ _).grown hgrow (Nat.le_refl _) (fun _ h => by cases h); rw [made_ils] at hown; have HI4 : Hid (z4.ownsRow z3.heap.size 3 1 (.slice (some ⟨z3.heap.size, 0, none⟩) (j - 1) (j - 1)) (j - 1) (ils (fun _ => 0) (j - 1))) := hown; clear hown hgrow)
                    | (go_at_call 10; have bz := bstep BZ3.out HB4.out; refine (sFir_good (ON.out.below bz) HI4.out (NW.out.below bz) GX.out).mono ?_; rintro e z5 ⟨y5, u5, rfl, q1, q2, _, q4⟩; have BV5 : Hid (Below V1.heap.size V1 z5) := bstep (bstep BV.out bz) q4; have Y5 : Hid (Il z5 y3 n (gtn j xs (q + 1))) := Y3.out.below (bstep HB4.out q4); have i11 := sSig_any Y5.out (by omega); rw [DS.out] at i11; clear q1 q2 q4 bz)
                    | (go_at_call 11; (with_reducible refine i11.mono ?_); rintro e w' ⟨rfl, hw⟩; obtain rfl := hw.symm))
                  go_roundw
                  case rel => exact ⟨q + 1, by go_num, by omega, Y5.out, HS.out, BV5.out⟩
                  case measure => simp [intOf]; omega
                · have DS : Hid (decide (Sig n (gtn j xs (q + 1))) = false) := decide_eq_false hS
                  clear hS
                  have hq2 : (q : Int) + 1 < (k : Int) := by omega
                  go_wp2_with (first
                    | (at_make; (fail_if_success have := M2); refine wpList_make_full _ rfl _ _ 24 rfl wr.heap.size 3 i0 (.int .i64 0) 1 Try.underlying24 hi hz0 hz1 .i64 .i64 _ _ (j - 1) rfl rfl (by omega) (by omega) (by rw [hz2]; omega) (by unfold maxLen; omega) (Nat.le_refl _) ?_; intro z2 hown hgrow; have HB2 : Hid (Below wr.heap.size wr z2) := (Below.refl _ _).grown hgrow (Nat.le_refl _) (fun _ h => by cases h); rw [made_ils] at hown; have HI2 : Hid (z2.ownsRow wr.heap.size 3 1 (.slice (some ⟨wr.heap.size, 0, none⟩) (j - 1) (j - 1)) (j - 1) (ils (fun _ => 0) (j - 1))) := hown; have M2 : Hid True := trivial; clear hown hgrow)
                    | (go_at_call 9; refine (iFir_good (ON.out.below HB2.out) HI2.out (NW.out.below HB2.out) GX.out).mono ?_; rintro e z3 ⟨y3, u3, rfl, q1, q2, _, q4⟩; have BZ3 : Hid (Below wr.heap.size wr z3) := bstep HB2.out q4; have Y3 : Hid (Il z3 y3 n (gtn j xs (q + 1))) := (by have := il_of_own q1; rw [ones_gat] at this; exact this); clear q1 q2 q4)
                    | (at_make; have Z := M2; refine wpList_make_full _ rfl _ _ 24 rfl z3.heap.size 3 i0 (.int .i64 0) 1 Try.underlying24 hi hz0 hz1 .i64 .i64 _ _ (j - 1) rfl rfl (by omega) (by omega) (by rw [hz2]; omega) (by unfold maxLen; omega) (Nat.le_refl _) ?_; intro z4 hown hgrow; have HB4 : Hid (Below z3.heap.size z3 z4) := (Below.refl _ _).grown hgrow (Nat.le_refl _) (fun _ h => by cases h); rw [made_ils] at hown; have HI4 : Hid (z4.ownsRow z3.heap.size 3 1 (.slice (some ⟨z3.heap.size, 0, none⟩) (j - 1) (j - 1)) (j - 1) (ils (fun _ => 0) (j - 1))) := hown; clear hown hgrow)
                    | (go_at_call 10; have bz := bstep BZ3.out HB4.out; refine (sFir_good (ON.out.below bz) HI4.out (NW.out.below bz) GX.out).mono ?_; rintro e z5 ⟨y5, u5, rfl, q1, q2, _, q4⟩; have BV5 : Hid (Below V1.heap.size V1 z5) := bstep (bstep BV.out bz) q4; have Y5 : Hid (Il z5 y3 n (gtn j xs (q + 1))) := Y3.out.below (bstep HB4.out q4); have i11 := sSig_any Y5.out (by omega); rw [DS.out] at i11; clear q1 q2 q4 bz)
                    | (go_at_call 11; (with_reducible refine i11.mono ?_); rintro e w' ⟨rfl, hw⟩; obtain rfl := hw.symm))
                  go_ret
                  exact ⟨rfl, bstep B6.out BV5.out⟩
                · have DS : Hid (decide (Sig n (gtn j xs (q + 1))) = false) := decide_eq_false hS
                  have HS : Hid (q + 1 < k → Sig n (gtn j xs (q + 1))) := fun h => absurd h (by omega)
                  clear hS
                  have hq2 : ¬ ((q : Int) + 1 < (k : Int)) := by omega
                  go_wp2_with (first
                    | (at_make; (fail_if_success have := M2); refine wpList_make_full _ rfl _ _ 24 rfl wr.heap.size 3 i0 (.int .i64 0) 1 Try.underlying24 hi hz0 hz1 .i64 .i64 _ _ (j - 1) rfl rfl (by omega) (by omega) (by rw [hz2]; omega) (by unfold maxLen; omega) (Nat.le_refl _) ?_; intro z2 hown hgrow; have HB2 : Hid (Below wr.heap.size wr z2) := (Below.refl _ _).grown hgrow (Nat.le_refl _) (fun _ h => by cases h); rw [made_ils] at hown; have HI2 : Hid (z2.ownsRow wr.heap.size 3 1 (.slice (some ⟨wr.heap.size, 0, none⟩) (j - 1) (j - 1)) (j - 1) (ils (fun _ => 0) (j - 1))) := hown; have M2 : Hid True := trivial; clear hown hgrow)
                    | (go_at_call 9; refine (iFir_good (ON.out.below HB2.out) HI2.out (NW.out.below HB2.out) GX.out).mono ?_; rintro e z3 ⟨y3, u3, rfl, q1, q2, _, q4⟩; have BZ3 : Hid (Below wr.heap.size wr z3) := bstep HB2.out q4; have Y3 : Hid (Il z3 y3 n (gtn j xs (q + 1))) := (by have := il_of_own q1; rw [ones_gat] at this; exact this); clear q1 q2 q4)
                    | (at_make; have Z := M2; refine wpList_make_full _ rfl _ _ 24 rfl z3.heap.size 3 i0 (.int .i64 0) 1 Try.underlying24 hi hz0 hz1 .i64 .i64 _ _ (j - 1) rfl rfl (by omega) (by omega) (by rw [hz2]; omega) (by unfold maxLen; omega) (Nat.le_refl _) ?_; intro z4 hown hgrow; have HB4 : Hid (Below z3.heap.size z3 z4) := (Below.refl _ _).grown hgrow (Nat.le_refl _) (fun _ h => by cases h); rw [made_ils] at hown; have HI4 : Hid (z4.ownsRow z3.heap.size 3 1 (.slice (some ⟨z3.heap.size, 0, none⟩) (j - 1) (j - 1)) (j - 1) (ils (fun _ => 0) (j - 1))) := hown; clear hown hgrow)
                    | (go_at_call 10; have bz := bstep BZ3.out HB4.out; refine (sFir_good (ON.out.below bz) HI4.out (NW.out.below bz) GX.out).mono ?_; rintro e z5 ⟨y5, u5, rfl, q1, q2, _, q4⟩; have BV5 : Hid (Below V1.heap.size V1 z5) := bstep (bstep BV.out bz) q4; have Y5 : Hid (Il z5 y3 n (gtn j xs (q + 1))) := Y3.out.below (bstep HB4.out q4); have i11 := sSig_any Y5.out (by omega); rw [DS.out] at i11; clear q1 q2 q4 bz)
                    | (go_at_call 11; (with_reducible refine i11.mono ?_); rintro e w' ⟨rfl, hw⟩; obtain rfl := hw.symm))
                  go_roundw
                  case rel => exact ⟨q + 1, by go_num, by omega, Y5.out, HS.out, BV5.out⟩
                  case measure => simp [intOf]; omega
              · obtain rfl : q = k := by omega
                rename World => V0
                obtain ⟨hil, _, hbl⟩ := hrel.out
                have BV : Hid (Below w.heap.size w V0) := bstep B6.out hbl
                have X7 : Hid (Il V0 x (n / j) (thn j (gtn j xs q))) := X6.out.below hbl
                obtain ⟨ao', cap', rfl, hcap', hc'⟩ := hil
                have HCE : Hid (0 < n → ∃ b off, ao' = some ⟨b, off, none⟩ ∧ b < V0.heap.size ∧ ∀ q', q' < n → V0.cell? ⟨b, off + q', none⟩ = some (.int .i64 (gtn j xs q q'))) := hc'
                have HOW : Hid ((V0.alloc (.cells #[] 3)).ownsRow V0.heap.size 3 1 (.slice (some ⟨V0.heap.size, 0, none⟩) 0 0) 0 (ils (thn j (gtn j xs q)) 0)) := own_empty V0 3 1
                have HBK : Hid (Below V0.heap.size V0 (V0.alloc (.cells #[] 3))) := below_one _ _
                have e0 : (j : Int) - 1 = ((j - 1 : Nat) : Int) := by omega
                have e1 : j - 1 + 1 = j := by omega
                generalize j - 1 = m' at e0 e1
                clear hc' hbl hrel
                go_wp2
                generalize V0.alloc (.cells #[] 3) = W5 at *
                go_loopw [22, 23] (fun o i wr2 => ∃ t b : Nat, i = .int .i64 b ∧ Hid ((b + 1 = j * (t + 1) ∧ j * t ≤ n) ∧ wr2.ownsRow V0.heap.size 3 1 o t (ils (thn j (gtn j xs q)) t) ∧ Below V0.heap.size V0 wr2)) (fun _ i _ => n + j - (intOf i).toNat)
                case atStart => exact ⟨0, m', rfl, ⟨by rw [e1]; omega, by omega⟩, HOW.out, HBK.out⟩
                case round =>
                  obtain ⟨t, b, rfl, hrel2⟩ := hrel
                  have HM : Hid (b + 1 = j * (t + 1) ∧ j * t ≤ n) := hrel2.out.1
                  obtain ⟨_, e3, e5⟩ := hrel2.out
                  have HE5 : Hid (Below V0.heap.size V0 wr) := e5
                  by_cases h1 : b < n
                  · obtain ⟨g, off, rfl, hlt, hcell⟩ := HCE.out (by omega)
                    have c := (e5.cell (p := ⟨g, off + b, none⟩) hlt).trans (hcell b h1)
                    have hy : gtn j xs q b = thn j (gtn j xs q) t := by
                      show _ = gtn j xs q (j * (t + 1) - 1)
                      rw [← HM.out.1]; rfl
                    rw [hy] at c
                    generalize hz : thn j (gtn j xs q) t = z at c hy
                    have HZ : Hid (thn j (gtn j xs q) t = z) := hz
                    clear hz hy hcell
                    have hjb : t ≤ n := by have := HM.out.2; have := Nat.le_mul_of_pos_left t (show 0 < j by omega); omega
                    have hb3 := below_one wr (.cells #[.int .i64 z] 3)
                    have HO3 := own_below e3 hb3
                    have HB3 : Below V0.heap.size V0 _ := bstep e5 hb3
                    have HS3 := HB3.size
                    clear hb3 e3 e5 hrel2
                    go_wp2_with (first | (at_builtin; refine wpList_append_own _ rfl _ _ 24 rfl V0.heap.size 3 i0 (.int .i64 0) 1 8 Try.underlying24 hi hz0 hz1 hz2 rfl (by decide) _ _ _ rfl HO3 ⟨wr.heap.size, 0, none⟩ 1 1 [.int .i64 z] rfl rfl (one_new _ _ _) (by simp [Value.oneCell']) (by unfold maxLen; omega) (by omega) HS3 ?_))
                    intro v' w7 hown' hgrow _
                    have HB4 : Hid (Below V0.heap.size V0 w7) := grown_below HB3 (Nat.le_refl _) HO3 hgrow
                    rw [← HZ.out, ← ils_snoc (thn j (gtn j xs q)) t] at hown'
                    have HO4 : Hid _ := hown'
                    clear hown' hgrow HB3 HO3
                    go_wp2
                    go_roundw
                    case rel => exact ⟨t + 1, b + j, by go_num, ⟨by have := HM.out.1; rw [Nat.mul_succ]; omega, by have := HM.out.1; omega⟩, HO4.out, HB4.out⟩
                    case measure => simp [intOf]; omega
                  · have hj : n / j = t := Nat.div_eq_of_lt_le (by have := HM.out.2; rw [Nat.mul_comm]; exact this) (by have := HM.out.1; rw [Nat.mul_comm]; omega)
                    have HF : Hid (Il wr u22 (n / j) (thn j (gtn j xs q))) := by rw [hj]; exact il_of_own e3
                    have X8 : Hid (Il wr x (n / j) (thn j (gtn j xs q))) := X7.out.below HE5.out
                    have hnj : n / j ≤ 1048576 := Nat.le_trans (Nat.div_le_self _ _) (by omega)
                    clear e3 e5 hrel2 hj
                    go_wp2_with (first
                      | (go_at_call 8; refine (same_yes HF.out X8.out hnj (fun _ _ => rfl)).mono ?_; rintro e w9 ⟨rfl, q4⟩; have B9 : Hid (Below w.heap.size w w9) := bstep (bstep BV.out HE5.out) q4; clear q4))
                    go_ret
                    exact ⟨rfl, B9.out⟩
      · have h16' : (16 : Int) < (m : Int) := by omega
        go_wp2_with (first
          | (go_at_call 6; (fail_if_success have := M1); refine (iCic_good (il_of_own HO.out) HW.out m1 m2 k1 k2).mono ?_; rintro e w2 ⟨x, rfl, q1, q2⟩; have M1 : Hid True := trivial; have X2 : Hid (Il w2 x (n / m) (thn m (gtn m xs k))) := il_of_own q1; have O2 : Hid (w2.ownsRow B 3 1 lv n (ils xs n)) := own_below HO.out q2; have B2 : Hid (Below w.heap.size w w2) := bstep B1.out q2; clear q1 q2)
          | (go_at_call 7; refine (sCic_good O2.out HW.out m1 m2 k1 k2).mono ?_; rintro e w3 ⟨x3, rfl, q1, q2⟩; have X3 : Hid (Il w3 x (n / m) (thn m (gtn m xs k))) := X2.out.below q2; have O3 : Hid (w3.ownsRow B 3 1 lv n (ils xs n)) := own_below O2.out q2; have B3 : Hid (Below w.heap.size w w3) := bstep B2.out q2; clear q1 q2)
          | (go_at_call 6; have Z := M1; refine (small_x w3).mono ?_; rintro e w4 ⟨y, rfl, q1, q2⟩; have Y4 : Hid (Il w4 y 2 l37) := q1; have B4 : Hid (Below w.heap.size w w4) := bstep B3.out q2; have K4 : Hid (Below w3.heap.size w3 w4) := q2; clear q1 q2)
          | (go_at_call 8; refine (same_yes (Y4.out.below (below_one _ _)) (lit37 w4) (by omega) (fun _ _ => rfl)).mono ?_; rintro e w5 ⟨rfl, q4⟩; have B5 : Hid (Below w.heap.size w w5) := bstep (bstep B4.out (below_one _ _)) q4; have X5 : Hid (Il w5 x (n / m) (thn m (gtn m xs k))) := X3.out.below (bstep (bstep K4.out (below_one _ _)) q4); have L5 : Hid (Il w5 lv n xs) := (il_of_own O3.out).below (bstep (bstep K4.out (below_one _ _)) q4); clear q4))
        go_ret
        exact ⟨rfl, B5.out⟩
    · have HG : Hid (¬ GC n xs r s) := hg
      clear hg
      have hn2 : n ≤ 1048576 := by omega
      go_wp2_with (first
        | (go_at_call 6; (fail_if_success have := M1); refine (iCic_bad (il_of_own HO.out) hn2 HG.out (fun _ => 0)).mono ?_; rintro e w2 ⟨x, rfl, q1, q2⟩; have M1 : Hid True := trivial; have O2 : Hid (w2.ownsRow B 3 1 lv n (ils xs n)) := own_below HO.out q2; have B2 : Hid (Below w.heap.size w w2) := bstep B1.out q2; clear q1 q2)
        | (go_at_call 7; refine (sCic_bad (il_of_own O2.out) hn2 HG.out (fun _ => 0)).mono ?_; rintro e w3 ⟨x3, rfl, q1, q2⟩; have B3 : Hid (Below w.heap.size w w3) := bstep B2.out q2; clear q1 q2)
        | (go_at_call 6; have Z := M1; refine (small_x w3).mono ?_; rintro e w4 ⟨y, rfl, q1, q2⟩; have Y4 : Hid (Il w4 y 2 l37) := q1; have B4 : Hid (Below w.heap.size w w4) := bstep B3.out q2; clear q1 q2)
        | (go_at_call 8; refine (same_yes (Y4.out.below (below_one _ _)) (lit37 w4) (by omega) (fun _ _ => rfl)).mono ?_; rintro e w5 ⟨rfl, q4⟩; have B5 : Hid (Below w.heap.size w w5) := bstep (bstep B4.out (below_one _ _)) q4; clear q4))
      go_ret
      exact ⟨rfl, B5.out⟩
  · rw [decide_eq_true (by omega)] at ib
    clear hr
    go_enter Try.func3, Try.ntmps3
    go_wp2_with (first
      | (go_at_call 4; (with_reducible refine ib.mono ?_); rintro e w' ⟨rfl, hw⟩; obtain rfl := hw.symm))
    go_ret
    exact ⟨rfl, Below.refl _ _⟩
end Go.Proofs.Ytnhkiknmbjaafaa
