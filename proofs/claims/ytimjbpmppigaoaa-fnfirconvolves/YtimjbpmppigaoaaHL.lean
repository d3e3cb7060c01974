/- FnFirConvolves: the law. -/
import Derived.Test.YtimjbpmppigaoaaHM
import Derived.Test.YtimjbpmppigaoaaHE
namespace Go.Proofs.Ytimjbpmppigaoaa
open Go.RowKit

/-- Whatever it is asked, Fir tells something. -/
theorem iFir_some {w : World} {B : Nat} {tv sv lv : Value} {n m N : Nat} {f st xs : Nat → Int} (ht : Il w tv n f) (hs : w.ownsRow B 3 1 sv m (ils st m)) (hl : Il w lv N xs) (hn : n ≤ 1048576) (hm : m ≤ 1048576) (hN : N ≤ 1048576) :
    Calls Try.prog 7 #[tv, sv, lv] w fun e w' => ∃ u0 u1 b, e = .returned (.tuple #[u0, u1, .bool b]) ∧ Below w.heap.size w w' := by
  by_cases h : GF n m N f st xs
  · refine (iFir_good ht hs hl h).mono ?_
    rintro e w2 ⟨u0, u1, rfl, _, _, _, q4⟩
    exact ⟨u0, u1, _, rfl, q4⟩
  · refine (iFir_bad ht (il_of_own hs) hl hn hm hN h (fun _ => 0) (fun _ => 0)).mono ?_
    rintro e w2 ⟨u0, u1, rfl, _, _, _, q4⟩
    exact ⟨u0, u1, _, rfl, q4⟩

theorem lits1 (W : World) : Il (((W.alloc (.cells #[.int .i64 2] 3)).alloc (.cells #[] 3)).alloc (.cells #[.int .i64 3] 3)) (.slice (some ⟨W.heap.size, 0, none⟩) 1 1) 1 (fun _ => 2) ∧
    (((W.alloc (.cells #[.int .i64 2] 3)).alloc (.cells #[] 3)).alloc (.cells #[.int .i64 3] 3)).ownsRow (W.heap.size + 1) 3 1 (.slice (some ⟨W.heap.size + 1, 0, none⟩) 0 0) 0 (ils (fun _ => 0) 0) ∧
    Il (((W.alloc (.cells #[.int .i64 2] 3)).alloc (.cells #[] 3)).alloc (.cells #[.int .i64 3] 3)) (.slice (some ⟨W.heap.size + 1 + 1, 0, none⟩) 1 1) 1 (fun _ => 3) ∧
    Below W.heap.size W (((W.alloc (.cells #[.int .i64 2] 3)).alloc (.cells #[] 3)).alloc (.cells #[.int .i64 3] 3)) := by
  have b1 := below_one W (.cells #[.int .i64 2] 3)
  have b2 := below_one (W.alloc (.cells #[.int .i64 2] 3)) (.cells #[] 3)
  have b3 := below_one ((W.alloc (.cells #[.int .i64 2] 3)).alloc (.cells #[] 3)) (.cells #[.int .i64 3] 3)
  have s1 : (W.alloc (.cells #[.int .i64 2] 3)).heap.size = W.heap.size + 1 := by simp
  have s2 : ((W.alloc (.cells #[.int .i64 2] 3)).alloc (.cells #[] 3)).heap.size = W.heap.size + 1 + 1 := by simp
  have o1 := one_own W 2
  have o2 := own_empty (W.alloc (.cells #[.int .i64 2] 3)) 3 1
  have o3 := one_own ((W.alloc (.cells #[.int .i64 2] 3)).alloc (.cells #[] 3)) 3
  rw [s1] at o2
  rw [s2] at o3
  exact ⟨(il_of_own (xs := fun _ => 2) o1).below (bstep b2 b3), own_below o2 b3, il_of_own (xs := fun _ => 3) o3, bstep (bstep b1 b2) b3⟩

theorem lit6 (W : World) : Il (W.alloc (.cells #[.int .i64 6] 3)) (.slice (some ⟨W.heap.size, 0, none⟩) 1 1) 1 (fun _ => 6) := il_of_own (xs := fun _ => 6) (one_own W 6)

theorem gf_one : GF 1 0 1 (fun _ => 2) (fun _ => 0) (fun _ => 3) :=
  ⟨⟨⟨⟨by omega, by omega⟩, fun k _ => by dsimp only; omega⟩, ⟨by omega, fun k hk => by omega⟩, rfl⟩, by omega, fun k _ => by dsimp only; omega⟩

/-- 1, 2, 3 and 4, 5. -/
def lA (i : Nat) : Int := if i = 0 then 1 else if i = 1 then 2 else 3
def lB (i : Nat) : Int := if i = 0 then 4 else 5

theorem lits2 (W : World) : Il ((W.alloc (.cells #[.int .i64 1, .int .i64 2, .int .i64 3] 3)).alloc (.cells #[.int .i64 4, .int .i64 5] 3)) (.slice (some ⟨W.heap.size, 0, none⟩) 3 3) 3 lA ∧
    Il ((W.alloc (.cells #[.int .i64 1, .int .i64 2, .int .i64 3] 3)).alloc (.cells #[.int .i64 4, .int .i64 5] 3)) (.slice (some ⟨W.heap.size + 1, 0, none⟩) 2 2) 2 lB ∧
    Below W.heap.size W ((W.alloc (.cells #[.int .i64 1, .int .i64 2, .int .i64 3] 3)).alloc (.cells #[.int .i64 4, .int .i64 5] 3)) := by
  have b1 := below_one W (.cells #[.int .i64 1, .int .i64 2, .int .i64 3] 3)
  have b2 := below_one (W.alloc (.cells #[.int .i64 1, .int .i64 2, .int .i64 3] 3)) (.cells #[.int .i64 4, .int .i64 5] 3)
  have s1 : (W.alloc (.cells #[.int .i64 1, .int .i64 2, .int .i64 3] 3)).heap.size = W.heap.size + 1 := by simp
  have o1 := World.ownsRow_lit (base := W.heap.size) (e := 3) (size := 1) W #[.int .i64 1, .int .i64 2, .int .i64 3] 3 (Nat.le_refl _) (by unfold maxLen; omega) rfl
  have o2 := World.ownsRow_lit (base := (W.alloc (.cells #[.int .i64 1, .int .i64 2, .int .i64 3] 3)).heap.size) (e := 3) (size := 1) (W.alloc (.cells #[.int .i64 1, .int .i64 2, .int .i64 3] 3)) #[.int .i64 4, .int .i64 5] 2 (Nat.le_refl _) (by unfold maxLen; omega) rfl
  rw [s1] at o2
  exact ⟨(il_of_own (xs := lA) o1).below b2, il_of_own (xs := lB) o2, bstep b1 b2⟩

theorem tps_lits : Tps 3 lA ∧ Tps 2 lB := ⟨⟨by omega, fun k _ => by unfold lA; split <;> (try split) <;> omega⟩, ⟨by omega, fun k _ => by unfold lB; split <;> omega⟩⟩

theorem gf_of {n N : Nat} {f xs : Nat → Int} (h0 : 0 < n) (h1 : n ≤ 64) (hx : Tps n f) (hy : Tps N xs) : GF n (n - 1) N f (fun _ => 0) xs := by
  refine ⟨⟨⟨⟨by omega, by omega⟩, fun k hk => ?_⟩, ⟨by omega, fun k _ => by dsimp only; omega⟩, by omega⟩, Nat.le_trans hy.1 (by omega), fun k hk => ?_⟩
  · have := hx.2 k hk; omega
  · have := hy.2 k hk; omega

set_option maxRecDepth 20000 in
set_option maxHeartbeats 4000000 in
theorem walk_convolves {w : World} {a : Option Addr} {len cap : Nat} (hr : Row w a len) (hlen : len ≤ 9223372036854775807) : Calls Try.prog 4 #[.slice a len cap] w fun e w' => e = .returned (.bool true) ∧ Below w.heap.size w w' := by
  obtain ⟨i0, hi, hz0, hz1, hz2⟩ := info_parts Try.info3
  have ib := big_x (w := w) a len cap hlen
  by_cases hl : len ≤ 1048576
  · rw [decide_eq_false (by omega)] at ib
    have id' := dconv_x (cap := cap) hr hl
    clear hr
    go_enter Try.func4, Try.ntmps4
    go_wp2_with (first
      | (go_at_call 5; (with_reducible refine ib.mono ?_); rintro e w' ⟨rfl, hw⟩; obtain rfl := hw.symm)
      | (go_at_call 12; (with_reducible refine id'.mono ?_); rintro e w1 ⟨tv, lv, rfl, hq⟩; obtain ⟨⟨n, f, hn, ht⟩, ⟨N, xs, hN, hx⟩, hb⟩ := hq.out; have HT : Hid (Il w1 tv n f) := ht; have HL : Hid (Il w1 lv N xs) := hx; have BX : Hid (Below w.heap.size w w1) := hb; (obtain ⟨to, tc, rfl, htc, _⟩ := ht); (obtain ⟨lo, lc, rfl, hlc, _⟩ := hx); clear hb hq id' ib; rcases (show (((0 < n ∧ n ≤ 64) ∧ 0 < N) ∨ n = 0 ∨ (0 < n ∧ 64 < n) ∨ (0 < n ∧ n ≤ 64 ∧ N = 0)) by omega) with hc | h | h | h))
    · exfalso
      rename_i q _ _ _ _
      simp at q
      omega
    · obtain ⟨⟨c1, c2⟩, c3⟩ := hc
      by_cases hg : Tps n f ∧ Tps N xs
      · have HX : Hid (Tps n f) := hg.1
        have HY : Hid (Tps N xs) := hg.2
        have GFX : Hid (GF n (n - 1) N f (fun _ => 0) xs) := gf_of c1 c2 hg.1 hg.2
        clear hg
        obtain ⟨M, hM⟩ : ∃ M : Nat, M = n + N - 1 := ⟨_, rfl⟩
        go_wp2_with (first
          | (go_at_call 13; refine (iConv_yes HT.out HL.out HX.out HY.out (by omega) (by omega)).mono ?_; rintro e w2 ⟨u, rfl, q1, q2⟩; have C2 : Hid (Il w2 u M (cvf (n + N - 1) f xs N n)) := (by rw [hM]; exact il_of_own q1); have T2 : Hid (Il w2 (.slice to n tc) n f) := HT.out.below q2; have L2 : Hid (Il w2 (.slice lo N lc) N xs) := HL.out.below q2; have B2 : Hid (Below w.heap.size w w2) := bstep BX.out q2; (obtain ⟨o1, c1', rfl, hc1, _⟩ := id C2.out); clear q1 q2)
          | (at_make; refine wpList_make_full _ rfl _ _ 24 rfl w2.heap.size 3 i0 (.int .i64 0) 1 Try.underlying24 hi hz0 hz1 .i64 .i64 _ _ (n - 1) rfl rfl (by omega) (by omega) (by rw [hz2]; omega) (by unfold maxLen; omega) (Nat.le_refl _) ?_; intro w3 hown hgrow; have HB3 : Hid (Below w2.heap.size w2 w3) := (Below.refl _ _).grown hgrow (Nat.le_refl _) (fun _ h => by cases h); rw [made_ils] at hown; have HI3 : Hid (w3.ownsRow w2.heap.size 3 1 (.slice (some ⟨w2.heap.size, 0, none⟩) (n - 1) (n - 1)) (n - 1) (ils (fun _ => 0) (n - 1))) := hown; clear hown hgrow)
          | (go_at_call 7; refine (iFir_good (T2.out.below HB3.out) HI3.out (L2.out.below HB3.out) GFX.out).mono ?_; rintro e w4 ⟨u0, u1, rfl, q1, q2, _, q4⟩; have K4 : Hid (Below w2.heap.size w2 w4) := bstep HB3.out q4; have X4 : Hid (Il w4 u0 N (fir n f (fun _ => 0) xs)) := il_of_own q1; (obtain ⟨o0, c0', rfl, hc0, _⟩ := id X4.out); clear q1 q2 q4)
          | (go_at_call 14; refine (sConv_yes (T2.out.below K4.out) (L2.out.below K4.out) HX.out HY.out (by omega) (by omega)).mono ?_; rintro e w5 ⟨u5, rfl, q1, q2⟩; have K5 : Hid (Below w2.heap.size w2 w5) := bstep K4.out q2; have X5 : Hid (Il w5 (.slice o0 N c0') N (fir n f (fun _ => 0) xs)) := X4.out.below q2; clear q1 q2)
          | (go_at_call 10; refine (same_yes (il_lo (C2.out.below K5.out) (by omega)) X5.out (by omega) (fun k hk => conv_fir hk)).mono ?_; rintro e w6 ⟨rfl, q4⟩; have B6 : Hid (Below w.heap.size w w6) := bstep (bstep B2.out K5.out) q4; clear q4))
        go_ret
        exact ⟨rfl, B6.out⟩
      · have HG : Hid (¬ (Tps n f ∧ Tps N xs)) := hg
        clear hg
        go_wp2_with (first
          | (go_at_call 13; refine (iConv_no HT.out HL.out (by omega) (by omega) HG.out (fun _ => 0)).mono ?_; rintro e w2 ⟨u, rfl, q1, q2⟩; have T2 : Hid (Il w2 (.slice to n tc) n f) := HT.out.below q2; have L2 : Hid (Il w2 (.slice lo N lc) N xs) := HL.out.below q2; have B2 : Hid (Below w.heap.size w w2) := bstep BX.out q2; clear q1 q2)
          | (at_make; refine wpList_make_full _ rfl _ _ 24 rfl w2.heap.size 3 i0 (.int .i64 0) 1 Try.underlying24 hi hz0 hz1 .i64 .i64 _ _ (n - 1) rfl rfl (by omega) (by omega) (by rw [hz2]; omega) (by unfold maxLen; omega) (Nat.le_refl _) ?_; intro w3 hown hgrow; have HB3 : Hid (Below w2.heap.size w2 w3) := (Below.refl _ _).grown hgrow (Nat.le_refl _) (fun _ h => by cases h); rw [made_ils] at hown; have HI3 : Hid (w3.ownsRow w2.heap.size 3 1 (.slice (some ⟨w2.heap.size, 0, none⟩) (n - 1) (n - 1)) (n - 1) (ils (fun _ => 0) (n - 1))) := hown; clear hown hgrow)
          | (go_at_call 7; (fail_if_success have := M4); refine (iFir_some (T2.out.below HB3.out) HI3.out (L2.out.below HB3.out) (by omega) (by omega) (by omega)).mono ?_; rintro e w4 ⟨u0, u1, b4, rfl, q4⟩; have M4 : Hid True := trivial; have K4 : Hid (Below w2.heap.size w2 w4) := bstep HB3.out q4; clear q4)
          | (go_at_call 14; refine (sConv_no (T2.out.below K4.out) (L2.out.below K4.out) (by omega) (by omega) HG.out (fun _ => 0)).mono ?_; rintro e w5 ⟨u5, rfl, q1, q2⟩; have B5 : Hid (Below w.heap.size w w5) := bstep (bstep B2.out K4.out) q2; clear q1 q2)
          | (go_at_call 7; have Z := M4; have LT := lits1 w5; refine (iFir_good LT.1 LT.2.1 LT.2.2.1 gf_one).mono ?_; rintro e w7 ⟨y0, y1, rfl, q1, q2, _, q4⟩; have Y7 : Hid (Il w7 y0 1 (fir 1 (fun _ => 2) (fun _ => 0) (fun _ => 3))) := il_of_own q1; have B7 : Hid (Below w.heap.size w w7) := bstep (bstep B5.out LT.2.2.2) q4; clear q1 q2 q4 LT)
          | (go_at_call 10; refine (same_yes (Y7.out.below (below_one _ _)) (lit6 w7) (by omega) (fun k hk => by obtain rfl : k = 0 := (by omega); rfl)).mono ?_; rintro e w8 ⟨rfl, q4⟩; have B8 : Hid (Below w.heap.size w w8) := bstep (bstep B7.out (below_one _ _)) q4; clear q4))
        go_ret
        exact ⟨rfl, B8.out⟩
    all_goals
      have LT := lits2 w1
      have HT : Hid (Il ((w1.alloc (.cells #[.int .i64 1, .int .i64 2, .int .i64 3] 3)).alloc (.cells #[.int .i64 4, .int .i64 5] 3)) (.slice (some ⟨w1.heap.size, 0, none⟩) 3 3) 3 lA) := LT.1
      have HL : Hid (Il ((w1.alloc (.cells #[.int .i64 1, .int .i64 2, .int .i64 3] 3)).alloc (.cells #[.int .i64 4, .int .i64 5] 3)) (.slice (some ⟨w1.heap.size + 1, 0, none⟩) 2 2) 2 lB) := LT.2.1
      have BX : Hid (Below w.heap.size w ((w1.alloc (.cells #[.int .i64 1, .int .i64 2, .int .i64 3] 3)).alloc (.cells #[.int .i64 4, .int .i64 5] 3))) := bstep BX.out LT.2.2
      have HX : Hid (Tps 3 lA) := tps_lits.1
      have HY : Hid (Tps 2 lB) := tps_lits.2
      have GFX : Hid (GF 3 (3 - 1) 2 lA (fun _ => 0) lB) := gf_of (by omega) (by omega) tps_lits.1 tps_lits.2
      clear LT h
      obtain ⟨M, hM⟩ : ∃ M : Nat, M = 3 + 2 - 1 := ⟨_, rfl⟩
      go_wp2_with (first
        | (go_at_call 13; refine (iConv_yes HT.out HL.out HX.out HY.out (by omega) (by omega)).mono ?_; rintro e w2 ⟨u, rfl, q1, q2⟩; have C2 : Hid (Il w2 u M (cvf (3 + 2 - 1) lA lB 2 3)) := (by rw [hM]; exact il_of_own q1); have T2 : Hid (Il w2 (.slice (some ⟨w1.heap.size, 0, none⟩) 3 3) 3 lA) := HT.out.below q2; have L2 : Hid (Il w2 (.slice (some ⟨w1.heap.size + 1, 0, none⟩) 2 2) 2 lB) := HL.out.below q2; have B2 : Hid (Below w.heap.size w w2) := bstep BX.out q2; (obtain ⟨o1, c1', rfl, hc1, _⟩ := id C2.out); clear q1 q2)
        | (at_make; refine wpList_make_full _ rfl _ _ 24 rfl w2.heap.size 3 i0 (.int .i64 0) 1 Try.underlying24 hi hz0 hz1 .i64 .i64 _ _ (3 - 1) rfl rfl (by omega) (by omega) (by rw [hz2]; omega) (by unfold maxLen; omega) (Nat.le_refl _) ?_; intro w3 hown hgrow; have HB3 : Hid (Below w2.heap.size w2 w3) := (Below.refl _ _).grown hgrow (Nat.le_refl _) (fun _ h => by cases h); rw [made_ils] at hown; have HI3 : Hid (w3.ownsRow w2.heap.size 3 1 (.slice (some ⟨w2.heap.size, 0, none⟩) (3 - 1) (3 - 1)) (3 - 1) (ils (fun _ => 0) (3 - 1))) := hown; clear hown hgrow)
        | (go_at_call 7; refine (iFir_good (T2.out.below HB3.out) HI3.out (L2.out.below HB3.out) GFX.out).mono ?_; rintro e w4 ⟨u0, u1, rfl, q1, q2, _, q4⟩; have K4 : Hid (Below w2.heap.size w2 w4) := bstep HB3.out q4; have X4 : Hid (Il w4 u0 2 (fir 3 lA (fun _ => 0) lB)) := il_of_own q1; (obtain ⟨o0, c0', rfl, hc0, _⟩ := id X4.out); clear q1 q2 q4)
        | (go_at_call 14; refine (sConv_yes (T2.out.below K4.out) (L2.out.below K4.out) HX.out HY.out (by omega) (by omega)).mono ?_; rintro e w5 ⟨u5, rfl, q1, q2⟩; have K5 : Hid (Below w2.heap.size w2 w5) := bstep K4.out q2; have X5 : Hid (Il w5 (.slice o0 2 c0') 2 (fir 3 lA (fun _ => 0) lB)) := X4.out.below q2; clear q1 q2)
        | (go_at_call 10; refine (same_yes (il_lo (C2.out.below K5.out) (by omega)) X5.out (by omega) (fun k hk => conv_fir hk)).mono ?_; rintro e w6 ⟨rfl, q4⟩; have B6 : Hid (Below w.heap.size w w6) := bstep (bstep B2.out K5.out) q4; clear q4))
      go_ret
      exact ⟨rfl, B6.out⟩
  · rw [decide_eq_true (by omega)] at ib
    clear hr
    go_enter Try.func4, Try.ntmps4
    go_wp2_with (first
      | (go_at_call 5; (with_reducible refine ib.mono ?_); rintro e w' ⟨rfl, hw⟩; obtain rfl := hw.symm))
    go_ret
    exact ⟨rfl, Below.refl _ _⟩
end Go.Proofs.Ytimjbpmppigaoaa
