/- Middles: the model's Middle. -/
import Derived.Test.YtfobngpokchgeaaMQ
import Derived.Test.YtfobngpokchgeaaMS
namespace Go.Proofs.Ytfobngpokchgeaa
open Go.RowKit

set_option maxHeartbeats 4000000 in
theorem sMdl_good {w : World} {v : Value} {n h m : Nat} {xs : Nat → Int} (hv : Il w v n xs) (hx : Sig n xs) (hh : h ≤ 15) (hm : m = 2 * h + 1) :
    Calls Try.prog 7 #[v, .int .i64 (m : Int)] w fun e w' => Pst w w' e n (mdl n xs h) true := by
  obtain ⟨i0, hi, hz0, hz1, hz2⟩ := info_parts Try.info3
  have h512 := hx.1
  have i1 := sSig_any (hv.below (below_one w (.cells #[] 3))) (by omega)
  rw [decide_eq_true hx] at i1
  have m1 : 1 ≤ m := by omega
  have m2 : m ≤ 31 := by omega
  have i2 := in_any (m : Int) 1 31
  rw [decide_eq_true (by omega)] at i2
  have e2 : (m : Int).tdiv 2 = (h : Int) := by rw [Int.tdiv_eq_ediv_of_nonneg (by omega)]; omega
  have e3 : (m : Int) / 2 = (h : Int) := by omega
  have e4 : (m : Int).tmod 2 = 1 := by rw [Int.tmod_eq_emod_of_nonneg (by omega)]; omega
  have e5 : (m : Int) % 2 = 1 := by omega
  have HV : Hid (Il w v n xs) := hv
  have HM : Hid (m = 2 * h + 1) := hm
  have OW : Hid ((w.alloc (.cells #[] 3)).ownsRow w.heap.size 3 1 (.slice (some ⟨w.heap.size, 0, none⟩) 0 0) 0 (ils (mdl n xs h) 0)) := own_empty w 3 1
  have BL : Hid (Below w.heap.size w (w.alloc (.cells #[] 3))) := below_one _ _
  obtain ⟨ao, cap, rfl, hcap, _⟩ := hv
  clear hm hx
  go_enter Try.func7, Try.ntmps7
  go_wp2_with (first
    | (go_at_call 15; (with_reducible refine i1.mono ?_); rintro e w' ⟨rfl, hw⟩; obtain rfl := hw.symm)
    | (go_at_call 16; (with_reducible refine (i2 _).mono ?_); rintro e w' ⟨rfl, hw⟩; obtain rfl := hw.symm))
  clear i1 i2
  generalize w.alloc (.cells #[] 3) = W at *
  go_loopw [6, 7, 8, 9] (fun o i _ _ wr => ∃ k : Nat, i = .int .i64 k ∧ k ≤ n ∧ Hid (wr.ownsRow w.heap.size 3 1 o k (ils (mdl n xs h) k) ∧ Below w.heap.size w wr)) (fun _ i _ _ _ => n - (intOf i).toNat)
  case atStart => exact ⟨0, rfl, by omega, OW.out, BL.out⟩
  case round =>
    obtain ⟨k, rfl, hk, hrel⟩ := hrel
    by_cases h1 : k < n
    · rename World => V
      have HR : Hid (V.ownsRow w.heap.size 3 1 u6 k (ils (mdl n xs h) k) ∧ Below w.heap.size w V) := hrel.out
      have ON : Hid ((V.alloc (.cells #[] 3)).ownsRow V.heap.size 3 1 (.slice (some ⟨V.heap.size, 0, none⟩) 0 0) 0 (ils (nr n xs k h) 0)) := own_empty V 3 1
      have BN : Hid (Below V.heap.size V (V.alloc (.cells #[] 3))) := below_one _ _
      clear hrel
      go_wp2
      generalize V.alloc (.cells #[] 3) = V2 at *
      go_loopw [8, 9] (fun o i wr => ∃ (j : Nat) (Z : Int), i = .int .i64 Z ∧ j ≤ m ∧ Hid (Z = (k : Int) + j - h ∧ wr.ownsRow V.heap.size 3 1 o j (ils (nr n xs k h) j) ∧ Below V.heap.size V wr)) (fun _ i _ => ((k : Int) + h + 1 - intOf i).toNat)
      case atStart => exact ⟨0, _, rfl, by omega, by show (k : Int) - h = (k : Int) + ((0 : Nat) : Int) - h; omega, ON.out, BN.out⟩
      case round =>
        obtain ⟨j, Z, rfl, hj, hrel⟩ := hrel
        have hZ := hrel.out.1
        have hM := HM.out
        have HR2 : Hid (wr.ownsRow V.heap.size 3 1 u8 j (ils (nr n xs k h) j) ∧ Below V.heap.size V wr) := hrel.out.2
        clear hrel
        by_cases h2 : j < m
        · have iN := sAt_any (HV.out.below (bstep HR.out.2 HR2.out.2)) (by omega) (by omega) Z (by omega)
          have hz : nea n xs Z = nr n xs k h j := by rw [hZ]; rfl
          rw [hz] at iN
          clear hz
          obtain ⟨y, hy⟩ : ∃ y, y = nr n xs k h j := ⟨_, rfl⟩
          rw [← hy] at iN
          have HY : Hid (y = nr n xs k h j) := hy
          have HZ : Hid (Z = (k : Int) + j - h) := hZ
          have hc : Z ≤ (k : Int) + h := by omega
          have hZ1 : -20 ≤ Z ∧ Z ≤ 1000 := by omega
          have hb3 := below_one wr (.cells #[.int .i64 y] 3)
          have HO3 := own_below HR2.out.1 hb3
          have HB3 := bstep HR2.out.2 hb3
          clear hb3 hy hZ hM
          go_wp2_with (first
            | (go_at_call 17; refine iN.mono ?_; rintro e w' ⟨rfl, hw⟩; obtain rfl := hw.symm)
            | (at_builtin; refine wpList_append_own _ rfl _ _ 24 rfl V.heap.size 3 i0 (.int .i64 0) 1 8 Try.underlying24 hi hz0 hz1 hz2 rfl (by decide) _ _ _ rfl HO3 ⟨wr.heap.size, 0, none⟩ 1 1 [.int .i64 y] rfl rfl (one_new _ _ _) (by simp [Value.oneCell']) (by unfold maxLen; omega) (by omega) HB3.size ?_))
          intro v' w4 hown' hgrow _
          have HB4 : Hid (Below V.heap.size V w4) := grown_below HB3 (Nat.le_refl _) HO3 hgrow
          rw [HY.out, ← ils_snoc (nr n xs k h) j] at hown'
          have HO4 : Hid _ := hown'
          clear hown' hgrow HB3 HO3
          go_wp2
          go_roundw
          case rel => exact ⟨j + 1, Z + 1, by first | rfl | go_num, by omega, by show Z + 1 = (k : Int) + ((j + 1 : Nat) : Int) - h; have := HZ.out; omega, HO4.out, HB4.out⟩
          case measure => simp [intOf]; omega
        · obtain rfl : j = m := by omega
          have hc : ¬ Z ≤ (k : Int) + h := by omega
          have hZ1 : -20 ≤ Z ∧ Z ≤ 1000 := by omega
          have iS := sSorted_any HR2.out.1 (by omega) (by omega)
          have hhj : h < j := by omega
          have hy0 : srt j (nr n xs k h) h = mdl n xs h k := by rw [hM]; rfl
          have HY0 : Hid (srt j (nr n xs k h) h = mdl n xs h k) := hy0
          have BW : Hid (Below w.heap.size w wr) := bstep HR.out.2 HR2.out.2
          have OO : Hid (wr.ownsRow w.heap.size 3 1 u6 k (ils (mdl n xs h) k)) := own_below HR.out.1 HR2.out.2
          clear hy0 hZ hM
          go_wp2_with (first
            | (go_at_call 18; refine iS.mono ?_; rintro e w5 ⟨u, rfl, q1, q2⟩; (obtain ⟨g, gc, rfl, hgc⟩ : ∃ g gc, u = .slice (some ⟨g, 0, none⟩) j gc ∧ j ≤ gc := (by rcases q1.2 with ⟨_, e⟩ | ⟨g, gc, cur, e, _, _, e2, _⟩; (· omega); exact ⟨g, gc, e, e2⟩)); have c := q1.cellAt h (by omega); rw [ils_get (by omega), HY0.out] at c; have hb3 := below_one w5 (.cells #[.int .i64 (mdl n xs h k)] 3); have HO3 := own_below (own_below OO.out q2) hb3; have HB3 := bstep (bstep BW.out q2) hb3; clear hb3 q1 q2)
            | (at_builtin; refine wpList_append_own _ rfl _ _ 24 rfl w.heap.size 3 i0 (.int .i64 0) 1 8 Try.underlying24 hi hz0 hz1 hz2 rfl (by decide) _ _ _ rfl HO3 ⟨w5.heap.size, 0, none⟩ 1 1 [.int .i64 (mdl n xs h k)] rfl rfl (one_new _ _ _) (by simp [Value.oneCell']) (by unfold maxLen; omega) (by omega) HB3.size ?_))
          intro v' w6 hown' hgrow _
          have HB4 : Hid (Below w.heap.size w w6) := grown_below HB3 (Nat.le_refl _) HO3 hgrow
          rw [← ils_snoc (mdl n xs h) k] at hown'
          have HO4 : Hid _ := hown'
          clear hown' hgrow HB3 HO3
          go_wp2
          go_roundw
          case rel => exact ⟨k + 1, by go_num, by omega, HO4.out, HB4.out⟩
          case measure => simp [intOf]; omega
    · obtain rfl : k = n := by omega
      go_wp2
      go_ret2
      exact ⟨_, rfl, hrel.out.1, hrel.out.2⟩

set_option maxHeartbeats 2000000 in
theorem sMdl_bad {w : World} {v : Value} {n : Nat} {r : Int} {xs : Nat → Int} (hv : Il w v n xs) (hn : n ≤ 1048576) (h : ¬ GM n xs r) (ys : Nat → Int) :
    Calls Try.prog 7 #[v, .int .i64 r] w fun e w' => Pst w w' e 0 ys false := by
  have i1 := sSig_any (hv.below (below_one w (.cells #[] 3))) hn
  have i2 := in_any r 1 31
  obtain ⟨ao, cap, rfl, hcap, hc⟩ := hv
  clear hc
  by_cases hx : Sig n xs
  · rw [decide_eq_true hx] at i1
    by_cases r1 : 1 ≤ r ∧ r ≤ 31
    · rw [decide_eq_true r1] at i2
      have e5 : r % 2 = 0 := by
        by_cases q : r % 2 = 0
        · exact q
        · exact absurd ⟨hx, r1, q⟩ h
      have e4 : r.tmod 2 = 0 := by rw [Int.tmod_eq_emod_of_nonneg (by omega)]; omega
      clear h hx
      go_enter Try.func7, Try.ntmps7
      go_wp2_with (first
        | (go_at_call 15; (with_reducible refine i1.mono ?_); rintro e w' ⟨rfl, hw⟩; obtain rfl := hw.symm)
        | (go_at_call 16; (with_reducible refine (i2 _).mono ?_); rintro e w' ⟨rfl, hw⟩; obtain rfl := hw.symm))
      go_ret2
      exact ⟨_, rfl, own_empty w 3 1, below_one _ _⟩
    · rw [decide_eq_false r1] at i2
      clear h hx r1
      go_enter Try.func7, Try.ntmps7
      go_wp2_with (first
        | (go_at_call 15; (with_reducible refine i1.mono ?_); rintro e w' ⟨rfl, hw⟩; obtain rfl := hw.symm)
        | (go_at_call 16; (with_reducible refine (i2 _).mono ?_); rintro e w' ⟨rfl, hw⟩; obtain rfl := hw.symm))
      go_ret2
      exact ⟨_, rfl, own_empty w 3 1, below_one _ _⟩
  · rw [decide_eq_false hx] at i1
    clear h hx i2
    go_enter Try.func7, Try.ntmps7
    go_wp2_with (first
      | (go_at_call 15; (with_reducible refine i1.mono ?_); rintro e w' ⟨rfl, hw⟩; obtain rfl := hw.symm))
    go_ret2
    exact ⟨_, rfl, own_empty w 3 1, below_one _ _⟩
end Go.Proofs.Ytfobngpokchgeaa
