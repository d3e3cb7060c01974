/- Rates: Down, both sides. -/
import Derived.Test.YteepdglljdcfeaaUB
namespace Go.Proofs.Yteepdglljdcfeaa
open Go.RowKit

/-- Good for Down. -/
abbrev GDn (n : Nat) (xs : Nat → Int) (b p : Int) : Prop := Sig n xs ∧ Rte b ∧ 0 ≤ p ∧ p ≤ b - 1

set_option maxHeartbeats 4000000 in
theorem iDown_good {w : World} {v : Value} {n m p : Nat} {xs : Nat → Int} (hv : Il w v n xs) (h : GDn n xs (m : Int) (p : Int)) :
    Calls Try.prog 14 #[v, .int .i64 (m : Int), .int .i64 (p : Int)] w fun e w' => Pst w w' e (dN n m p) (thF m p xs) true := by
  obtain ⟨h1, h2, h3, h4⟩ := h
  have h5 := h1.1
  have i1 := iSig_any hv (by omega)
  rw [decide_eq_true h1] at i1
  have i2 := iRte_any (m : Int)
  rw [decide_eq_true h2] at i2
  have i3 := thin_any hv (by omega) (show m ≤ 1000 by omega) (show p < m by omega)
  obtain ⟨ao, cap, rfl, hcap, hc⟩ := hv
  clear hc h1
  go_enter Try.func14, Try.ntmps14
  go_wp2_with (first
    | (go_at_call 22; (with_reducible refine (i1).mono ?_); rintro e w' ⟨rfl, hw⟩; obtain rfl := hw.symm)
    | (go_at_call 23; (with_reducible refine (i2 _).mono ?_); rintro e w' ⟨rfl, hw⟩; obtain rfl := hw.symm)
    | (go_at_call 26; (with_reducible refine i3.mono ?_); rintro e w1 ⟨u, rfl, ho, hb⟩; have HO : Hid (w1.ownsRow w.heap.size 3 1 u (dN n m p) (ils (thF m p xs) (dN n m p)) ∧ Below w.heap.size w w1) := ⟨ho, hb⟩; clear ho hb))
  go_ret2
  exact ⟨_, rfl, HO.out.1, HO.out.2⟩

set_option maxHeartbeats 4000000 in
theorem sDown_good {w : World} {v : Value} {n m p : Nat} {xs : Nat → Int} (hv : Il w v n xs) (h : GDn n xs (m : Int) (p : Int)) :
    Calls Try.prog 13 #[v, .int .i64 (m : Int), .int .i64 (p : Int)] w fun e w' => Pst w w' e (dN n m p) (thF m p xs) true := by
  obtain ⟨i0, hi, hz0, hz1, hz2⟩ := info_parts Try.info3
  obtain ⟨h1, h2, h3, h4⟩ := h
  have h5 := h1.1
  have hp : p < m := by omega
  have i1 := sSig_any (hv.below (below_one w (.cells #[] 3))) (by omega)
  rw [decide_eq_true h1] at i1
  have i2 := sRte_any (m : Int)
  rw [decide_eq_true h2] at i2
  have i3 := in_any (p : Int) 0 ((m : Int) - 1)
  rw [decide_eq_true ⟨h3, h4⟩] at i3
  have OW : Hid ((w.alloc (.cells #[] 3)).ownsRow w.heap.size 3 1 (.slice (some ⟨w.heap.size, 0, none⟩) 0 0) 0 (ils (thF m p xs) 0)) := own_empty w 3 1
  have BL : Hid (Below w.heap.size w (w.alloc (.cells #[] 3))) := below_one _ _
  obtain ⟨ao, cap, rfl, hcap, hc⟩ := hv
  have HC : Hid (0 < n → ∃ b off, ao = some ⟨b, off, none⟩ ∧ b < w.heap.size ∧ ∀ k, k < n → w.cell? ⟨b, off + k, none⟩ = some (.int .i64 (xs k))) := hc
  clear hc h1
  go_enter Try.func13, Try.ntmps13
  go_wp2_with (first
    | (go_at_call 19; (with_reducible refine (i1).mono ?_); rintro e w' ⟨rfl, hw⟩; obtain rfl := hw.symm)
    | (go_at_call 20; (with_reducible refine (i2 _).mono ?_); rintro e w' ⟨rfl, hw⟩; obtain rfl := hw.symm)
    | (go_at_call 25; (with_reducible refine (i3 _).mono ?_); rintro e w' ⟨rfl, hw⟩; obtain rfl := hw.symm))
  generalize w.alloc (.cells #[] 3) = W at *
  go_loopw [8, 9] (fun o i wr => ∃ j a : Nat, i = .int .i64 a ∧ Hid ((a = p + m * j ∧ p + m * j < n + m) ∧ wr.ownsRow w.heap.size 3 1 o j (ils (thF m p xs) j) ∧ Below w.heap.size w wr)) (fun _ i _ => n + m - (intOf i).toNat)
  case atStart => exact ⟨0, p, rfl, ⟨by omega, by omega⟩, OW.out, BL.out⟩
  case round =>
    obtain ⟨j, a, rfl, hrel⟩ := hrel
    have HM : Hid (a = p + m * j ∧ p + m * j < n + m) := hrel.out.1
    have hjb : j ≤ n + m := by have := HM.out.2; have := Nat.le_mul_of_pos_left j (show 0 < m by omega); omega
    by_cases h1 : a < n
    · obtain ⟨b, off, rfl, hlt, hcell⟩ := HC.out (by omega)
      have c := (hrel.out.2.2.cell (p := ⟨b, off + a, none⟩) hlt).trans (hcell a h1)
      have hy : xs a = thF m p xs j := by show _ = xs (p + m * j); rw [← HM.out.1]
      rw [hy] at c
      generalize hz : thF m p xs j = z at c hy
      have HZ : Hid (thF m p xs j = z) := hz
      clear hz hy hcell
      have hb3 := below_one wr (.cells #[.int .i64 z] 3)
      have HO3 := own_below hrel.out.2.1 hb3
      have HB3 := bstep hrel.out.2.2 hb3
      clear hb3
      go_wp2_with (first | (at_builtin; refine wpList_append_own _ rfl _ _ 22 rfl w.heap.size 3 i0 (.int .i64 0) 1 8 Try.underlying22 hi hz0 hz1 hz2 rfl (by decide) _ _ _ rfl HO3 ⟨wr.heap.size, 0, none⟩ 1 1 [.int .i64 z] rfl rfl (one_new _ _ _) (by simp [Value.oneCell']) (by unfold maxLen; omega) (by omega) HB3.size ?_))
      intro v' w4 hown' hgrow _
      have HB4 : Hid (Below w.heap.size w w4) := grown_below HB3 (Nat.le_refl _) HO3 hgrow
      rw [← HZ.out, ← ils_snoc (thF m p xs) j] at hown'
      have HO4 : Hid _ := hown'
      clear hown' hgrow HB3 HO3
      go_wp2
      go_roundw
      case rel => exact ⟨j + 1, a + m, by go_num, ⟨by have := HM.out.1; rw [Nat.mul_succ]; omega, by have := HM.out.1; rw [Nat.mul_succ]; omega⟩, HO4.out, HB4.out⟩
      case measure => simp [intOf]; omega
    · have hj : dN n m p = j := dN_of hp (by have := HM.out.1; omega) HM.out.2
      have HF : Hid (wr.ownsRow w.heap.size 3 1 u8 (dN n m p) (ils (thF m p xs) (dN n m p))) := by
        rw [hj]; exact hrel.out.2.1
      have HB4 : Hid (Below w.heap.size w wr) := hrel.out.2.2
      clear hrel hj
      go_wp2
      go_ret2
      exact ⟨_, rfl, HF.out, HB4.out⟩

set_option maxHeartbeats 2000000 in
theorem sDown_bad {w : World} {v : Value} {n : Nat} {xs : Nat → Int} {b p : Int} (hv : Il w v n xs) (hn : n ≤ 1048576) (h : ¬ GDn n xs b p) (ys : Nat → Int) :
    Calls Try.prog 13 #[v, .int .i64 b, .int .i64 p] w fun e w' => Pst w w' e 0 ys false := by
  have i1 := sSig_any (hv.below (below_one w (.cells #[] 3))) hn
  have i2 := sRte_any b
  have i3 := in_any p 0 (b - 1)
  obtain ⟨ao, cap, rfl, hcap, hc⟩ := hv
  clear hc
  by_cases c1 : Sig n xs
  · rw [decide_eq_true c1] at i1
    by_cases c2 : Rte b
    · rw [decide_eq_true c2] at i2
      rw [decide_eq_false (fun c3 => h ⟨c1, c2, c3⟩)] at i3
      clear h c1
      go_enter Try.func13, Try.ntmps13
      go_wp2_with (first | (go_at_call 19; (with_reducible refine (i1).mono ?_); rintro e w' ⟨rfl, hw⟩; obtain rfl := hw.symm) | (go_at_call 20; (with_reducible refine (i2 _).mono ?_); rintro e w' ⟨rfl, hw⟩; obtain rfl := hw.symm) | (go_at_call 25; (with_reducible refine (i3 _).mono ?_); rintro e w' ⟨rfl, hw⟩; obtain rfl := hw.symm))
      go_ret2
      exact ⟨_, rfl, own_empty w 3 1, below_one _ _⟩
    · rw [decide_eq_false c2] at i2
      clear h c1
      clear i3
      go_enter Try.func13, Try.ntmps13
      go_wp2_with (first | (go_at_call 19; (with_reducible refine (i1).mono ?_); rintro e w' ⟨rfl, hw⟩; obtain rfl := hw.symm) | (go_at_call 20; (with_reducible refine (i2 _).mono ?_); rintro e w' ⟨rfl, hw⟩; obtain rfl := hw.symm))
      go_ret2
      exact ⟨_, rfl, own_empty w 3 1, below_one _ _⟩
  · rw [decide_eq_false c1] at i1
    clear h c1
    clear i2 i3
    go_enter Try.func13, Try.ntmps13
    go_wp2_with (first | (go_at_call 19; (with_reducible refine (i1).mono ?_); rintro e w' ⟨rfl, hw⟩; obtain rfl := hw.symm))
    go_ret2
    exact ⟨_, rfl, own_empty w 3 1, below_one _ _⟩
set_option maxHeartbeats 2000000 in
theorem iDown_bad {w : World} {v : Value} {n : Nat} {xs : Nat → Int} {b p : Int} (hv : Il w v n xs) (hn : n ≤ 1048576) (h : ¬ GDn n xs b p) (ys : Nat → Int) :
    Calls Try.prog 14 #[v, .int .i64 b, .int .i64 p] w fun e w' => Pst w w' e 0 ys false := by
  have i1 := iSig_any hv hn
  have i2 := iRte_any b
  obtain ⟨ao, cap, rfl, hcap, hc⟩ := hv
  clear hc
  by_cases c1 : Sig n xs
  · rw [decide_eq_true c1] at i1
    by_cases c2 : Rte b
    · rw [decide_eq_true c2] at i2
      by_cases c3 : 0 ≤ p
      · skip
        have c4 : ¬ (p ≤ b - 1) := fun c4 => h ⟨c1, c2, c3, c4⟩
        clear h c1
        go_enter Try.func14, Try.ntmps14
        go_wp2_with (first | (go_at_call 22; (with_reducible refine (i1).mono ?_); rintro e w' ⟨rfl, hw⟩; obtain rfl := hw.symm) | (go_at_call 23; (with_reducible refine (i2 _).mono ?_); rintro e w' ⟨rfl, hw⟩; obtain rfl := hw.symm))
        go_ret2
        exact ⟨_, rfl, own_empty w 3 1, below_one _ _⟩
      · skip
        clear h c1
        go_enter Try.func14, Try.ntmps14
        go_wp2_with (first | (go_at_call 22; (with_reducible refine (i1).mono ?_); rintro e w' ⟨rfl, hw⟩; obtain rfl := hw.symm) | (go_at_call 23; (with_reducible refine (i2 _).mono ?_); rintro e w' ⟨rfl, hw⟩; obtain rfl := hw.symm))
        go_ret2
        exact ⟨_, rfl, own_empty w 3 1, below_one _ _⟩
    · rw [decide_eq_false c2] at i2
      clear h c1
      go_enter Try.func14, Try.ntmps14
      go_wp2_with (first | (go_at_call 22; (with_reducible refine (i1).mono ?_); rintro e w' ⟨rfl, hw⟩; obtain rfl := hw.symm) | (go_at_call 23; (with_reducible refine (i2 _).mono ?_); rintro e w' ⟨rfl, hw⟩; obtain rfl := hw.symm))
      go_ret2
      exact ⟨_, rfl, own_empty w 3 1, below_one _ _⟩
  · rw [decide_eq_false c1] at i1
    clear h c1
    clear i2
    go_enter Try.func14, Try.ntmps14
    go_wp2_with (first | (go_at_call 22; (with_reducible refine (i1).mono ?_); rintro e w' ⟨rfl, hw⟩; obtain rfl := hw.symm))
    go_ret2
    exact ⟨_, rfl, own_empty w 3 1, below_one _ _⟩
end Go.Proofs.Yteepdglljdcfeaa
