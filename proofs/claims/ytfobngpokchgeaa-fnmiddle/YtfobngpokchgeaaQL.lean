/- FnMiddle: the law. -/
import Derived.Test.YtfobngpokchgeaaMR
import Derived.Test.YtfobngpokchgeaaMX
import Derived.Test.YtfobngpokchgeaaQB
import Derived.Test.YtfobngpokchgeaaQH
namespace Go.Proofs.Ytfobngpokchgeaa
open Go.RowKit

/-- 9, 1, 5 and 9, 5, 5. -/
def l915 (i : Nat) : Int := if i = 0 then 9 else if i = 1 then 1 else 5
def l955 (i : Nat) : Int := if i = 0 then 9 else 5

theorem lit915 (W : World) : Il (W.alloc (.cells #[.int .i64 9, .int .i64 1, .int .i64 5] 3)) (.slice (some ⟨W.heap.size, 0, none⟩) 3 3) 3 l915 :=
  il_of_own (xs := l915) (World.ownsRow_lit (base := W.heap.size) (e := 3) (size := 1) W #[.int .i64 9, .int .i64 1, .int .i64 5] 3 (Nat.le_refl _) (by unfold maxLen; omega) rfl)

theorem lit955 (W : World) : Il (W.alloc (.cells #[.int .i64 9, .int .i64 5, .int .i64 5] 3)) (.slice (some ⟨W.heap.size, 0, none⟩) 3 3) 3 l955 :=
  il_of_own (xs := l955) (World.ownsRow_lit (base := W.heap.size) (e := 3) (size := 1) W #[.int .i64 9, .int .i64 5, .int .i64 5] 3 (Nat.le_refl _) (by unfold maxLen; omega) rfl)

theorem mid3 (f g : Nat → Int) (h1 : g 0 ≤ g 1) (h2 : g 1 ≤ g 2) (hp : (ofF g 3).Perm (ofF f 3)) : srt 3 f 1 = g 1 := by
  refine (srt_of (n := 3) ?_ hp 1 (by omega)).symm
  intro a b hab hb
  rcases (show (a = 0 ∧ b = 1) ∨ (a = 0 ∧ b = 2) ∨ (a = 1 ∧ b = 2) by omega) with ⟨rfl, rfl⟩ | ⟨rfl, rfl⟩ | ⟨rfl, rfl⟩
  · exact h1
  · exact Int.le_trans h1 h2
  · exact h2

theorem small_x (W : World) : Calls Try.prog 6 #[.slice (some ⟨W.heap.size, 0, none⟩) 3 3, .int .i64 3] (W.alloc (.cells #[.int .i64 9, .int .i64 1, .int .i64 5] 3)) fun e w' => ∃ u, e = .returned (.tuple #[u, .bool true]) ∧ Il w' u 3 l955 ∧ Below W.heap.size W w' := by
  have h := iMdl_good (n := 3) (h := 1) (m := 3) (lit915 W) ⟨by omega, fun k _ => by unfold l915; split <;> (try split) <;> omega⟩ (by omega) rfl
  refine h.mono ?_
  rintro e w' ⟨u, rfl, q1, q2⟩
  refine ⟨u, rfl, ?_, bstep (below_one _ _) q2⟩
  have e1 : ils (mdl 3 l915 1) 3 = ils l955 3 := ils_congr fun i hi => by
    show srt 3 (nr 3 l915 i 1) 1 = _
    rcases (show i = 0 ∨ i = 1 ∨ i = 2 by omega) with rfl | rfl | rfl
    · exact mid3 _ (fun t => if t = 0 then 1 else 9) (by decide) (by decide) (by decide +kernel)
    · exact mid3 _ (fun t => if t = 0 then 1 else if t = 1 then 5 else 9) (by decide) (by decide) (by decide +kernel)
    · exact mid3 _ (fun t => if t = 0 then 1 else 5) (by decide) (by decide) (by decide +kernel)
  rw [e1] at q1
  exact il_of_own q1

set_option maxRecDepth 20000 in
set_option maxHeartbeats 4000000 in
theorem walk_middle {w : World} {a : Option Addr} {len cap : Nat} (hr : Row w a len) (hlen : len ≤ 9223372036854775807) : Calls Try.prog 3 #[.slice a len cap] w fun e w' => e = .returned (.bool true) ∧ Below w.heap.size w w' := by
  have ib := big_x (w := w) a len cap hlen
  by_cases hl : len ≤ 1048576
  · rw [decide_eq_false (by omega)] at ib
    have id' := dmid_x (cap := cap) hr hl
    clear hr
    go_enter Try.func3, Try.ntmps3
    go_wp2_with (first
      | (go_at_call 4; (with_reducible refine ib.mono ?_); rintro e w' ⟨rfl, hw⟩; obtain rfl := hw.symm)
      | (go_at_call 5; (with_reducible refine id'.mono ?_); rintro e w1 ⟨lv, r, rfl, hq⟩))
    obtain ⟨⟨n, xs, hn, hx⟩, hb⟩ := hq.out
    have HO : Hid (Il w1 lv n xs) := hx
    have B1 : Hid (Below w.heap.size w w1) := hb
    obtain ⟨lo, lc, rfl, hlc, _⟩ := hx
    clear hb hq id' ib
    by_cases hg : GM n xs r
    · have hr0 := hg.2.1
      have hr1 := hg.2.2
      have HW : Hid (Sig n xs) := hg.1
      have h512 := hg.1.1
      obtain ⟨m, rfl⟩ : ∃ m : Nat, r = (m : Int) := ⟨r.toNat, by omega⟩
      obtain ⟨h, hm⟩ : ∃ h : Nat, m = 2 * h + 1 := ⟨m / 2, by omega⟩
      have hh : h ≤ 15 := by omega
      have e2 : (m : Int).tdiv 2 = (h : Int) := by rw [Int.tdiv_eq_ediv_of_nonneg (by omega)]; omega
      have e3 : (m : Int) / 2 = (h : Int) := by omega
      have m31 : m ≤ 31 := by omega
      have HM : Hid (m = 2 * h + 1) := hm
      clear hg hr0 hr1 hm
      go_wp2_with (first
        | (go_at_call 6; refine (iMdl_good HO.out HW.out hh HM.out).mono ?_; rintro e w2 ⟨x, rfl, q1, q2⟩; have X2 : Hid (Il w2 x n (mdl n xs h)) := il_of_own q1; have O2 : Hid (Il w2 (.slice lo n lc) n xs) := HO.out.below q2; have B2 : Hid (Below w.heap.size w w2) := bstep B1.out q2; (obtain ⟨xo, xc, rfl, hxc, _⟩ := id X2.out); clear q1 q2)
        | (go_at_call 7; refine (sMdl_good O2.out HW.out hh HM.out).mono ?_; rintro e w3 ⟨x3, rfl, q1, q2⟩; have X3 : Hid (Il w3 (.slice xo n xc) n (mdl n xs h)) := X2.out.below q2; have O3 : Hid (Il w3 (.slice lo n lc) n xs) := O2.out.below q2; have B3 : Hid (Below w.heap.size w w3) := bstep B2.out q2; clear q1 q2))
      go_loopw [9, 10, 11, 12, 13] (fun i _ _ _ _ wr => ∃ k : Nat, i = .int .i64 k ∧ k ≤ n ∧ Hid (Below w3.heap.size w3 wr)) (fun i _ _ _ _ _ => n - (intOf i).toNat)
      case atStart => exact ⟨0, rfl, by omega, Below.refl _ _⟩
      case round =>
        obtain ⟨k, rfl, hk, hrel⟩ := hrel
        by_cases h1 : k < n
        · have BK : Hid (Below w3.heap.size w3 wr) := hrel.out
          clear hrel
          go_wp2
          go_loopw [10, 11, 12, 13] (fun bl ab i _ wr => ∃ (j A B : Nat) (Z : Int), bl = .int .i64 A ∧ ab = .int .i64 B ∧ i = .int .i64 Z ∧ j ≤ m ∧ A ≤ j ∧ B ≤ j ∧ Hid ((A = cnt (fun z => decide (z < mdl n xs h k)) (nr n xs k h) j ∧ B = cnt (fun z => decide (mdl n xs h k < z)) (nr n xs k h) j) ∧ Z = (k : Int) + j - h ∧ Below w3.heap.size w3 wr)) (fun _ _ i _ _ => ((k : Int) + h + 1 - intOf i).toNat)
          case atStart => exact ⟨0, 0, 0, _, rfl, rfl, rfl, by omega, by omega, by omega, ⟨rfl, rfl⟩, by show (k : Int) - h = (k : Int) + ((0 : Nat) : Int) - h; omega, BK.out⟩
          case round =>
            obtain ⟨j, A, B, Z, rfl, rfl, rfl, hj, hA, hB, hrel⟩ := hrel
            have hZ := hrel.out.2.1
            have hM := HM.out
            have HC : Hid (A = cnt (fun z => decide (z < mdl n xs h k)) (nr n xs k h) j ∧ B = cnt (fun z => decide (mdl n xs h k < z)) (nr n xs k h) j) := hrel.out.1
            have BJ : Hid (Below w3.heap.size w3 wr) := hrel.out.2.2
            clear hrel
            by_cases h2 : j < m
            · obtain ⟨_, _, hlo, _, hcl⟩ := id (O3.out.below BJ.out)
              injection hlo with q1 q2 q3
              subst q1 q3
              obtain ⟨b, off, rfl, hlt, hcell⟩ := hcl (by omega)
              obtain ⟨_, _, hxo, _, hcx⟩ := id (X3.out.below BJ.out)
              injection hxo with p1 p2 p3
              subst p1 p3
              obtain ⟨b', off', rfl, hlt', hcell'⟩ := hcx (by omega)
              have c := il_near hcell (by omega) Z
              have c' := hcell' k h1
              have hy : nea n xs Z = nr n xs k h j := by rw [hZ]; rfl
              rw [hy] at c
              have hc : Z ≤ (k : Int) + h := by omega
              have hZ1 : -20 ≤ Z ∧ Z ≤ 1000 := by omega
              have HZ : Hid (Z = (k : Int) + j - h) := hZ
              clear hcell hcell' hcl hcx hy hZ hM
              rcases Int.lt_trichotomy (nr n xs k h j) (mdl n xs h k) with t1 | t1 | t1
              · have HA : Hid ((A + 1) = cnt (fun z => decide (z < mdl n xs h k)) (nr n xs k h) (j + 1)) := by rw [cnt_succ, ← HC.out.1]; simp only [decide_eq_true_eq]; rw [if_pos t1]; exact rfl
                have HB : Hid (B = cnt (fun z => decide (mdl n xs h k < z)) (nr n xs k h) (j + 1)) := by rw [cnt_succ, ← HC.out.2]; simp only [decide_eq_true_eq]; rw [if_neg (by omega)]; rfl
                obtain ⟨y, hy⟩ : ∃ y, y = nr n xs k h j := ⟨_, rfl⟩
                obtain ⟨M, hMd⟩ : ∃ M, M = mdl n xs h k := ⟨_, rfl⟩
                rw [← hy] at c t1
                rw [← hMd] at c' t1
                clear HC hy hMd
                by_cases z1 : Z < 0
                · rw [npl_low z1, Nat.add_zero] at c
                  go_wp2_with (go_quiet (fail))
                  go_roundw
                  case rel => exact ⟨j + 1, (A + 1), B, _, by first | rfl | go_num, by first | rfl | go_num, by first | rfl | go_num, by omega, by omega, by omega, ⟨HA.out, HB.out⟩, by have := HZ.out; show _ = (k : Int) + ((j + 1 : Nat) : Int) - h; omega, by first | exact BJ.out | exact below_drewN BJ.out _ | exact below_drewN (below_drewN BJ.out _) _⟩
                  case measure => simp [intOf]; omega
                · by_cases z2 : (n : Int) ≤ Z
                  · rw [npl_high z1 z2] at c
                    go_wp2_with (go_quiet (fail))
                    go_roundw
                    case rel => exact ⟨j + 1, (A + 1), B, _, by first | rfl | go_num, by first | rfl | go_num, by first | rfl | go_num, by omega, by omega, by omega, ⟨HA.out, HB.out⟩, by have := HZ.out; show _ = (k : Int) + ((j + 1 : Nat) : Int) - h; omega, by first | exact BJ.out | exact below_drewN BJ.out _ | exact below_drewN (below_drewN BJ.out _) _⟩
                    case measure => simp [intOf]; omega
                  · rw [npl_mid z1 z2] at c
                    obtain ⟨q, rfl⟩ : ∃ q : Nat, Z = q := ⟨Z.toNat, by omega⟩
                    simp only [Int.toNat_natCast] at c
                    go_wp2_with (go_quiet (fail))
                    go_roundw
                    case rel => exact ⟨j + 1, (A + 1), B, _, by first | rfl | go_num, by first | rfl | go_num, by first | rfl | go_num, by omega, by omega, by omega, ⟨HA.out, HB.out⟩, by have := HZ.out; show _ = (k : Int) + ((j + 1 : Nat) : Int) - h; omega, by first | exact BJ.out | exact below_drewN BJ.out _ | exact below_drewN (below_drewN BJ.out _) _⟩
                    case measure => simp [intOf]; omega
              · have HA : Hid (A = cnt (fun z => decide (z < mdl n xs h k)) (nr n xs k h) (j + 1)) := by rw [cnt_succ, ← HC.out.1]; simp only [decide_eq_true_eq]; rw [if_neg (by omega)]; rfl
                have HB : Hid (B = cnt (fun z => decide (mdl n xs h k < z)) (nr n xs k h) (j + 1)) := by rw [cnt_succ, ← HC.out.2]; simp only [decide_eq_true_eq]; rw [if_neg (by omega)]; rfl
                obtain ⟨y, hy⟩ : ∃ y, y = nr n xs k h j := ⟨_, rfl⟩
                obtain ⟨M, hMd⟩ : ∃ M, M = mdl n xs h k := ⟨_, rfl⟩
                rw [← hy] at c t1
                rw [← hMd] at c' t1
                clear HC hy hMd
                by_cases z1 : Z < 0
                · rw [npl_low z1, Nat.add_zero] at c
                  go_wp2_with (go_quiet (fail))
                  go_roundw
                  case rel => exact ⟨j + 1, A, B, _, by first | rfl | go_num, by first | rfl | go_num, by first | rfl | go_num, by omega, by omega, by omega, ⟨HA.out, HB.out⟩, by have := HZ.out; show _ = (k : Int) + ((j + 1 : Nat) : Int) - h; omega, by first | exact BJ.out | exact below_drewN BJ.out _ | exact below_drewN (below_drewN BJ.out _) _⟩
                  case measure => simp [intOf]; omega
                · by_cases z2 : (n : Int) ≤ Z
                  · rw [npl_high z1 z2] at c
                    go_wp2_with (go_quiet (fail))
                    go_roundw
                    case rel => exact ⟨j + 1, A, B, _, by first | rfl | go_num, by first | rfl | go_num, by first | rfl | go_num, by omega, by omega, by omega, ⟨HA.out, HB.out⟩, by have := HZ.out; show _ = (k : Int) + ((j + 1 : Nat) : Int) - h; omega, by first | exact BJ.out | exact below_drewN BJ.out _ | exact below_drewN (below_drewN BJ.out _) _⟩
                    case measure => simp [intOf]; omega
                  · rw [npl_mid z1 z2] at c
                    obtain ⟨q, rfl⟩ : ∃ q : Nat, Z = q := ⟨Z.toNat, by omega⟩
                    simp only [Int.toNat_natCast] at c
                    go_wp2_with (go_quiet (fail))
                    go_roundw
                    case rel => exact ⟨j + 1, A, B, _, by first | rfl | go_num, by first | rfl | go_num, by first | rfl | go_num, by omega, by omega, by omega, ⟨HA.out, HB.out⟩, by have := HZ.out; show _ = (k : Int) + ((j + 1 : Nat) : Int) - h; omega, by first | exact BJ.out | exact below_drewN BJ.out _ | exact below_drewN (below_drewN BJ.out _) _⟩
                    case measure => simp [intOf]; omega
              · have HA : Hid (A = cnt (fun z => decide (z < mdl n xs h k)) (nr n xs k h) (j + 1)) := by rw [cnt_succ, ← HC.out.1]; simp only [decide_eq_true_eq]; rw [if_neg (by omega)]; rfl
                have HB : Hid ((B + 1) = cnt (fun z => decide (mdl n xs h k < z)) (nr n xs k h) (j + 1)) := by rw [cnt_succ, ← HC.out.2]; simp only [decide_eq_true_eq]; rw [if_pos t1]; exact rfl
                obtain ⟨y, hy⟩ : ∃ y, y = nr n xs k h j := ⟨_, rfl⟩
                obtain ⟨M, hMd⟩ : ∃ M, M = mdl n xs h k := ⟨_, rfl⟩
                rw [← hy] at c t1
                rw [← hMd] at c' t1
                clear HC hy hMd
                by_cases z1 : Z < 0
                · rw [npl_low z1, Nat.add_zero] at c
                  go_wp2_with (go_quiet (fail))
                  go_roundw
                  case rel => exact ⟨j + 1, A, (B + 1), _, by first | rfl | go_num, by first | rfl | go_num, by first | rfl | go_num, by omega, by omega, by omega, ⟨HA.out, HB.out⟩, by have := HZ.out; show _ = (k : Int) + ((j + 1 : Nat) : Int) - h; omega, by first | exact BJ.out | exact below_drewN BJ.out _ | exact below_drewN (below_drewN BJ.out _) _⟩
                  case measure => simp [intOf]; omega
                · by_cases z2 : (n : Int) ≤ Z
                  · rw [npl_high z1 z2] at c
                    go_wp2_with (go_quiet (fail))
                    go_roundw
                    case rel => exact ⟨j + 1, A, (B + 1), _, by first | rfl | go_num, by first | rfl | go_num, by first | rfl | go_num, by omega, by omega, by omega, ⟨HA.out, HB.out⟩, by have := HZ.out; show _ = (k : Int) + ((j + 1 : Nat) : Int) - h; omega, by first | exact BJ.out | exact below_drewN BJ.out _ | exact below_drewN (below_drewN BJ.out _) _⟩
                    case measure => simp [intOf]; omega
                  · rw [npl_mid z1 z2] at c
                    obtain ⟨q, rfl⟩ : ∃ q : Nat, Z = q := ⟨Z.toNat, by omega⟩
                    simp only [Int.toNat_natCast] at c
                    go_wp2_with (go_quiet (fail))
                    go_roundw
                    case rel => exact ⟨j + 1, A, (B + 1), _, by first | rfl | go_num, by first | rfl | go_num, by first | rfl | go_num, by omega, by omega, by omega, ⟨HA.out, HB.out⟩, by have := HZ.out; show _ = (k : Int) + ((j + 1 : Nat) : Int) - h; omega, by first | exact BJ.out | exact below_drewN BJ.out _ | exact below_drewN (below_drewN BJ.out _) _⟩
                    case measure => simp [intOf]; omega
            · obtain rfl : j = m := by omega
              have hc : ¬ Z ≤ (k : Int) + h := by omega
              have hA2 : A ≤ h := by rw [HC.out.1, hM]; exact mid_below h _
              have hB2 : B ≤ h := by rw [HC.out.2, hM]; exact mid_above h _
              have hZ1 : -20 ≤ Z ∧ Z ≤ 1000 := by omega
              clear HC hZ hM
              go_wp2
              go_roundw
              case rel => exact ⟨k + 1, by go_num, by omega, BJ.out⟩
              case measure => simp [intOf]; omega
        · obtain rfl : k = n := by omega
          rename World => V
          have B4 : Hid (Below w.heap.size w V) := bstep B3.out hrel.out
          clear hrel
          go_wp2_with (first
            | (go_at_call 6; refine (small_x V).mono ?_; rintro e w7 ⟨y, rfl, q1, q2⟩; have Y7 : Hid (Il w7 y 3 l955) := q1; have B7 : Hid (Below w.heap.size w w7) := bstep B4.out q2; clear q1 q2)
            | (go_at_call 8; refine (same_yes (Y7.out.below (below_one _ _)) (lit955 w7) (by omega) (fun _ _ => rfl)).mono ?_; rintro e w8 ⟨rfl, q4⟩; have B8 : Hid (Below w.heap.size w w8) := bstep (bstep B7.out (below_one _ _)) q4; clear q4))
          go_ret
          exact ⟨rfl, B8.out⟩
    · have HG : Hid (¬ GM n xs r) := hg
      clear hg
      have hn2 : n ≤ 1048576 := by omega
      go_wp2_with (first
        | (go_at_call 6; refine (iMdl_bad HO.out hn2 HG.out (fun _ => 0)).mono ?_; rintro e w2 ⟨x, rfl, q1, q2⟩; have X2 : Hid (Il w2 x 0 (fun _ => 0)) := il_of_own q1; have O2 : Hid (Il w2 (.slice lo n lc) n xs) := HO.out.below q2; have B2 : Hid (Below w.heap.size w w2) := bstep B1.out q2; (obtain ⟨xo, xc, rfl, hxc, _⟩ := id X2.out); clear q1 q2)
        | (go_at_call 7; refine (sMdl_bad O2.out hn2 HG.out (fun _ => 0)).mono ?_; rintro e w3 ⟨x3, rfl, q1, q2⟩; have B3 : Hid (Below w.heap.size w w3) := bstep B2.out q2; clear q1 q2))
      go_loopw [9, 10, 11, 12, 13] (fun i _ _ _ _ wr => i = .int .i64 0 ∧ Hid (Below w3.heap.size w3 wr)) (fun _ _ _ _ _ _ => 0)
      case atStart => exact ⟨rfl, Below.refl _ _⟩
      case round =>
        obtain ⟨rfl, hrel⟩ := hrel
        rename World => V
        have B4 : Hid (Below w.heap.size w V) := bstep B3.out hrel.out
        clear hrel
        go_wp2_with (first
          | (go_at_call 6; refine (small_x V).mono ?_; rintro e w7 ⟨y, rfl, q1, q2⟩; have Y7 : Hid (Il w7 y 3 l955) := q1; have B7 : Hid (Below w.heap.size w w7) := bstep B4.out q2; clear q1 q2)
          | (go_at_call 8; refine (same_yes (Y7.out.below (below_one _ _)) (lit955 w7) (by omega) (fun _ _ => rfl)).mono ?_; rintro e w8 ⟨rfl, q4⟩; have B8 : Hid (Below w.heap.size w w8) := bstep (bstep B7.out (below_one _ _)) q4; clear q4))
        go_ret
        exact ⟨rfl, B8.out⟩
  · rw [decide_eq_true (by omega)] at ib
    clear hr
    go_enter Try.func3, Try.ntmps3
    go_wp2_with (first
      | (go_at_call 4; (with_reducible refine ib.mono ?_); rintro e w' ⟨rfl, hw⟩; obtain rfl := hw.symm))
    go_ret
    exact ⟨rfl, Below.refl _ _⟩
end Go.Proofs.Ytfobngpokchgeaa
