/- Rates: Up, both sides. -/
import Derived.Test.YtgamambcbaobnaaUA
namespace Go.Proofs.Ytgamambcbaobnaa
open Go.RowKit

theorem sRte_any (x : Int) (w : World) : Calls Try.prog 26 #[.int .i64 x] w fun e w' => e = .returned (.bool (decide (Rte x))) ∧ w' = w := by
  have i1 := in_any x 1 16
  generalize decide (1 ≤ x ∧ x ≤ 16) = d at i1
  go_enter Try.func26, Try.ntmps26
  go_wp2_with (first | (go_at_call 36; (with_reducible refine (i1 _).mono ?_); rintro e w' ⟨rfl, hw⟩; obtain rfl := hw.symm))
  go_ret
  exact ⟨rfl, rfl⟩

set_option maxHeartbeats 4000000 in
theorem sDense_any {w : World} {v : Value} {n m M : Nat} {xs : Nat → Int} (hv : Il w v n xs) (hn : n ≤ 512) (h0 : 1 ≤ m) (hm : m ≤ 16) (hM : M = n * m) :
    Calls Try.prog 27 #[v, .int .i64 (m : Int)] w fun e w' => ∃ u, e = .returned u ∧ w'.ownsRow w.heap.size 3 1 u M (ils (upF m xs) M) ∧ Below w.heap.size w w' := by
  obtain ⟨i0, hi, hz0, hz1, hz2⟩ := info_parts Try.info3
  have HM : Hid (M = n * m) := hM
  have OW : Hid ((w.alloc (.cells #[] 3)).ownsRow w.heap.size 3 1 (.slice (some ⟨w.heap.size, 0, none⟩) 0 0) 0 (ils (upF m xs) 0)) := own_empty w 3 1
  have BL : Hid (Below w.heap.size w (w.alloc (.cells #[] 3))) := below_one _ _
  obtain ⟨ao, cap, rfl, hcap, hc⟩ := hv
  have HC : Hid (0 < n → ∃ b off, ao = some ⟨b, off, none⟩ ∧ b < w.heap.size ∧ ∀ k, k < n → w.cell? ⟨b, off + k, none⟩ = some (.int .i64 (xs k))) := hc
  clear hc hM
  go_enter Try.func27, Try.ntmps27
  go_wp2
  generalize w.alloc (.cells #[] 3) = W at *
  go_loopw [5, 6, 7] (fun o i _ wr => ∃ k q : Nat, i = .int .i64 k ∧ k ≤ n ∧ Hid (q = k * m ∧ wr.ownsRow w.heap.size 3 1 o q (ils (upF m xs) q) ∧ Below w.heap.size w wr)) (fun _ i _ _ => n - (intOf i).toNat)
  case atStart => exact ⟨0, 0, rfl, by omega, by omega, OW.out, BL.out⟩
  case round =>
    obtain ⟨k, q, rfl, hk, hrel⟩ := hrel
    by_cases h1 : k < n
    · obtain ⟨b, off, rfl, hlt, hcell⟩ := HC.out (by omega)
      have c := (hrel.out.2.2.cell (p := ⟨b, off + k, none⟩) hlt).trans (hcell k h1)
      have hqM : q + m ≤ 8192 := by rw [hrel.out.1, ← Nat.succ_mul]; exact Nat.mul_le_mul (show k.succ ≤ 512 by omega) hm
      have HQ : Hid (q = k * m) := hrel.out.1
      have hy : upF m xs q = xs k := by rw [HQ.out]; exact upF_at (by omega) xs
      rw [← hy] at c
      generalize hz : upF m xs q = z at c hy
      have HZ : Hid (upF m xs q = z) := hz
      clear hz hcell hy
      have hb3 := below_one wr (.cells #[.int .i64 z] 3)
      have HO3 := own_below hrel.out.2.1 hb3
      have HB3 := bstep hrel.out.2.2 hb3
      clear hb3 hrel
      go_wp2_with (first | (at_builtin; refine wpList_append_own _ rfl _ _ 24 rfl w.heap.size 3 i0 (.int .i64 0) 1 8 Try.underlying24 hi hz0 hz1 hz2 rfl (by decide) _ _ _ rfl HO3 ⟨wr.heap.size, 0, none⟩ 1 1 [.int .i64 z] rfl rfl (one_new _ _ _) (by simp [Value.oneCell']) (by unfold maxLen; omega) (by omega) HB3.size ?_))
      intro v' w4 hown' hgrow _
      have HB4 : Hid (Below w.heap.size w w4) := grown_below HB3 (Nat.le_refl _) HO3 hgrow
      rw [← HZ.out, ← ils_snoc (upF m xs) q] at hown'
      have HO4 : Hid (w4.ownsRow w.heap.size 3 1 v' (q + 1) (ils (upF m xs) (q + 1))) := hown'
      clear hown' hgrow HB3 HO3
      go_wp2
      go_loopw [5, 7] (fun o i wr2 => ∃ j : Nat, i = .int .i64 j ∧ 1 ≤ j ∧ j ≤ m ∧ Hid (wr2.ownsRow w.heap.size 3 1 o (q + j) (ils (upF m xs) (q + j)) ∧ Below w.heap.size w wr2)) (fun _ i _ => m - (intOf i).toNat)
      case atStart => exact ⟨1, rfl, by omega, by omega, HO4.out, HB4.out⟩
      case round =>
        rename World => V0
        obtain ⟨j, rfl, hj0, hj, hrel⟩ := hrel
        by_cases h2 : j < m
        · have hb3 := below_one V0 (.cells #[.int .i64 0] 3)
          have HO3 := own_below hrel.out.1 hb3
          have HB3 := bstep hrel.out.2 hb3
          clear hb3 hrel
          go_wp2_with (first | (at_builtin; refine wpList_append_own _ rfl _ _ 24 rfl w.heap.size 3 i0 (.int .i64 0) 1 8 Try.underlying24 hi hz0 hz1 hz2 rfl (by decide) _ _ _ rfl HO3 ⟨V0.heap.size, 0, none⟩ 1 1 [.int .i64 0] rfl rfl (one_new _ _ _) (by simp [Value.oneCell']) (by unfold maxLen; omega) (by omega) HB3.size ?_))
          intro v2 w5 hown' hgrow _
          have HB5 : Hid (Below w.heap.size w w5) := grown_below HB3 (Nat.le_refl _) HO3 hgrow
          have hzz : upF m xs (q + j) = 0 := by rw [HQ.out]; exact upF_off (by omega) h2 xs
          rw [← hzz, ← ils_snoc (upF m xs) (q + j)] at hown'
          have HO5 : Hid (w5.ownsRow w.heap.size 3 1 v2 (q + j + 1) (ils (upF m xs) (q + j + 1))) := hown'
          clear hown' hgrow HB3 HO3 hzz
          go_wp2
          go_roundw
          case rel => exact ⟨j + 1, by go_num, by omega, by omega, HO5.out, HB5.out⟩
          case measure => simp [intOf]; omega
        · obtain rfl : m = j := by omega
          go_wp2
          go_roundw
          case rel => exact ⟨k + 1, q + m, by go_num, by omega, by rw [HQ.out, Nat.succ_mul], hrel.out⟩
          case measure => simp [intOf]; omega
    · obtain rfl : n = k := by omega
      have HF : Hid (wr.ownsRow w.heap.size 3 1 u5 M (ils (upF m xs) M) ∧ Below w.heap.size w wr) := by
        rw [HM.out, ← hrel.out.1]; exact hrel.out.2
      clear hrel
      go_wp2
      go_ret
      exact ⟨_, rfl, HF.out⟩

/-- Good for Up. -/
abbrev GUp (n : Nat) (xs : Nat → Int) (b : Int) : Prop := Sig n xs ∧ Rte b ∧ (n : Int) * b ≤ 512

set_option maxHeartbeats 4000000 in
theorem sUp_good {w : World} {v : Value} {n m M : Nat} {xs : Nat → Int} (hv : Il w v n xs) (h : GUp n xs (m : Int)) (hM : M = n * m) :
    Calls Try.prog 9 #[v, .int .i64 (m : Int)] w fun e w' => Pst w w' e M (upF m xs) true := by
  obtain ⟨h1, h2, h3⟩ := h
  have h5 := h1.1
  have e0 : (n : Int) * (m : Int) = (M : Int) := by rw [hM]; exact (Int.natCast_mul n m).symm
  rw [e0] at h3
  have i1 := sSig_any hv (by omega)
  rw [decide_eq_true h1] at i1
  have i2 := sRte_any (m : Int)
  rw [decide_eq_true h2] at i2
  have i3 := sDense_any hv h5 (by omega) (by omega) hM
  obtain ⟨ao, cap, rfl, hcap, hc⟩ := hv
  clear hc h1 h2 hM
  go_enter Try.func9, Try.ntmps9
  go_wp2_with (first
    | (go_at_call 23; (with_reducible refine (i1).mono ?_); rintro e w' ⟨rfl, hw⟩; obtain rfl := hw.symm)
    | (go_at_call 26; (with_reducible refine (i2 _).mono ?_); rintro e w' ⟨rfl, hw⟩; obtain rfl := hw.symm)
    | (go_at_call 27; (with_reducible refine i3.mono ?_); rintro e w1 ⟨u, rfl, ho, hb⟩; have HO : Hid (w1.ownsRow w.heap.size 3 1 u M (ils (upF m xs) M) ∧ Below w.heap.size w w1) := ⟨ho, hb⟩; clear ho hb))
  go_ret2
  exact ⟨_, rfl, HO.out.1, HO.out.2⟩

set_option maxHeartbeats 4000000 in
theorem iUp_good {w : World} {v : Value} {n m M : Nat} {xs : Nat → Int} (hv : Il w v n xs) (h : GUp n xs (m : Int)) (hM : M = n * m) :
    Calls Try.prog 8 #[v, .int .i64 (m : Int)] w fun e w' => Pst w w' e M (upF m xs) true := by
  obtain ⟨h1, h2, h3⟩ := h
  have h5 := h1.1
  have e0 : (n : Int) * (m : Int) = (M : Int) := by rw [hM]; exact (Int.natCast_mul n m).symm
  rw [e0] at h3
  have i1 := iSig_any hv (by omega)
  rw [decide_eq_true h1] at i1
  have i2 := iRte_any (m : Int)
  rw [decide_eq_true h2] at i2
  have i3 := spread_any hv h5 (by omega) (by omega) hM
  obtain ⟨ao, cap, rfl, hcap, hc⟩ := hv
  clear hc h1 h2 hM
  go_enter Try.func8, Try.ntmps8
  go_wp2_with (first
    | (go_at_call 28; (with_reducible refine (i1).mono ?_); rintro e w' ⟨rfl, hw⟩; obtain rfl := hw.symm)
    | (go_at_call 19; (with_reducible refine (i2 _).mono ?_); rintro e w' ⟨rfl, hw⟩; obtain rfl := hw.symm)
    | (go_at_call 22; (with_reducible refine i3.mono ?_); rintro e w1 ⟨u, rfl, ho, hb⟩; have HO : Hid (w1.ownsRow w.heap.size 3 1 u M (ils (upF m xs) M) ∧ Below w.heap.size w w1) := ⟨ho, hb⟩; clear ho hb))
  go_ret2
  exact ⟨_, rfl, HO.out.1, HO.out.2⟩

set_option maxHeartbeats 2000000 in
theorem sUp_bad {w : World} {v : Value} {n : Nat} {xs : Nat → Int} {b : Int} (hv : Il w v n xs) (hn : n ≤ 1048576) (h : ¬ GUp n xs b) (ys : Nat → Int) :
    Calls Try.prog 9 #[v, .int .i64 b] w fun e w' => Pst w w' e 0 ys false := by
  have i1 := sSig_any hv hn
  have i2 := sRte_any b
  obtain ⟨ao, cap, rfl, hcap, hc⟩ := hv
  clear hc
  by_cases c1 : Sig n xs
  · rw [decide_eq_true c1] at i1
    have h5 := c1.1
    by_cases c2 : Rte b
    · rw [decide_eq_true c2] at i2
      have h6 := mul_in (a := b) (b := (n : Int)) (A := 16) (B := 512) (by omega) (by omega) (by omega); rw [Int.mul_comm b] at h6
      have c3 : ¬ ((n : Int) * b ≤ 512) := fun c3 => h ⟨c1, c2, c3⟩
      clear h c1
      go_enter Try.func9, Try.ntmps9
      go_wp2_with (first | (go_at_call 23; (with_reducible refine (i1).mono ?_); rintro e w' ⟨rfl, hw⟩; obtain rfl := hw.symm) | (go_at_call 26; (with_reducible refine (i2 _).mono ?_); rintro e w' ⟨rfl, hw⟩; obtain rfl := hw.symm))
      go_ret2
      exact ⟨_, rfl, own_empty w 3 1, below_one _ _⟩
    · rw [decide_eq_false c2] at i2
      clear h c1
      go_enter Try.func9, Try.ntmps9
      go_wp2_with (first | (go_at_call 23; (with_reducible refine (i1).mono ?_); rintro e w' ⟨rfl, hw⟩; obtain rfl := hw.symm) | (go_at_call 26; (with_reducible refine (i2 _).mono ?_); rintro e w' ⟨rfl, hw⟩; obtain rfl := hw.symm))
      go_ret2
      exact ⟨_, rfl, own_empty w 3 1, below_one _ _⟩
  · rw [decide_eq_false c1] at i1
    clear h c1
    clear i2
    go_enter Try.func9, Try.ntmps9
    go_wp2_with (first | (go_at_call 23; (with_reducible refine (i1).mono ?_); rintro e w' ⟨rfl, hw⟩; obtain rfl := hw.symm))
    go_ret2
    exact ⟨_, rfl, own_empty w 3 1, below_one _ _⟩
set_option maxHeartbeats 2000000 in
theorem iUp_bad {w : World} {v : Value} {n : Nat} {xs : Nat → Int} {b : Int} (hv : Il w v n xs) (hn : n ≤ 1048576) (h : ¬ GUp n xs b) (ys : Nat → Int) :
    Calls Try.prog 8 #[v, .int .i64 b] w fun e w' => Pst w w' e 0 ys false := by
  have i1 := iSig_any hv hn
  have i2 := iRte_any b
  obtain ⟨ao, cap, rfl, hcap, hc⟩ := hv
  clear hc
  by_cases c1 : Sig n xs
  · rw [decide_eq_true c1] at i1
    have h5 := c1.1
    by_cases c2 : Rte b
    · rw [decide_eq_true c2] at i2
      have h6 := mul_in (a := b) (b := (n : Int)) (A := 16) (B := 512) (by omega) (by omega) (by omega); rw [Int.mul_comm b] at h6
      have c3 : ¬ ((n : Int) * b ≤ 512) := fun c3 => h ⟨c1, c2, c3⟩
      clear h c1
      go_enter Try.func8, Try.ntmps8
      go_wp2_with (first | (go_at_call 28; (with_reducible refine (i1).mono ?_); rintro e w' ⟨rfl, hw⟩; obtain rfl := hw.symm) | (go_at_call 19; (with_reducible refine (i2 _).mono ?_); rintro e w' ⟨rfl, hw⟩; obtain rfl := hw.symm))
      go_ret2
      exact ⟨_, rfl, own_empty w 3 1, below_one _ _⟩
    · rw [decide_eq_false c2] at i2
      clear h c1
      go_enter Try.func8, Try.ntmps8
      go_wp2_with (first | (go_at_call 28; (with_reducible refine (i1).mono ?_); rintro e w' ⟨rfl, hw⟩; obtain rfl := hw.symm) | (go_at_call 19; (with_reducible refine (i2 _).mono ?_); rintro e w' ⟨rfl, hw⟩; obtain rfl := hw.symm))
      go_ret2
      exact ⟨_, rfl, own_empty w 3 1, below_one _ _⟩
  · rw [decide_eq_false c1] at i1
    clear h c1
    clear i2
    go_enter Try.func8, Try.ntmps8
    go_wp2_with (first | (go_at_call 28; (with_reducible refine (i1).mono ?_); rintro e w' ⟨rfl, hw⟩; obtain rfl := hw.symm))
    go_ret2
    exact ⟨_, rfl, own_empty w 3 1, below_one _ _⟩
end Go.Proofs.Ytgamambcbaobnaa
