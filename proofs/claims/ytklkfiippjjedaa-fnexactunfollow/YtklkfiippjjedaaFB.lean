/- Follow and UnFollow: the document's. -/
import Derived.Test.YtklkfiippjjedaaFA
namespace Go.Proofs.Ytklkfiippjjedaa
open Go.RowKit

set_option maxHeartbeats 8000000 in
theorem sFo_false {w : World} {v : Value} {n t : Nat} {xs : Nat → Int} (hv : Il w v n xs) (h : GFo n xs (t : Int)) :
    Calls Try.prog 13 #[v, .int .i64 (t : Int), .bool false] w fun e w' => Pst w w' e n (fol false t xs) true := by
  obtain ⟨i0, hi, hz0, hz1, hz2⟩ := info_parts Try.info3
  obtain ⟨h, ht0, ht⟩ := h
  have h5 := h.1
  have HBT : Hid (∀ k, k < n → Bit (xs k)) := h.2
  have i1 := sBits_any (hv.below (below_one w (.cells #[] 3))) (by omega)
  rw [decide_eq_true h] at i1
  have i2 := in_any (t : Int) 0 65535
  rw [decide_eq_true (by omega)] at i2
  have OW : Hid ((w.alloc (.cells #[] 3)).ownsRow w.heap.size 3 1 (.slice (some ⟨w.heap.size, 0, none⟩) 0 0) 0 (ils (fol false t xs) 0)) := own_empty w 3 1
  have BL : Hid (Below w.heap.size w (w.alloc (.cells #[] 3))) := below_one _ _
  obtain ⟨ao, cap, rfl, hcap, hc⟩ := hv
  have HC : Hid (0 < n → ∃ b off, ao = some ⟨b, off, none⟩ ∧ b < w.heap.size ∧ ∀ k, k < n → w.cell? ⟨b, off + k, none⟩ = some (.int .i64 (xs k))) := hc
  clear hc h
  go_enter Try.func13, Try.ntmps13
  go_wp2_with (first | (go_at_call 17; (with_reducible refine (i1).mono ?_); rintro e w' ⟨rfl, hw⟩; obtain rfl := hw.symm) | (go_at_call 18; (with_reducible refine (i2 _).mono ?_); rintro e w' ⟨rfl, hw⟩; obtain rfl := hw.symm))
  clear i1 i2
  generalize w.alloc (.cells #[] 3) = W at *
  go_loopw [8, 9, 10, 11, 12, 13] (fun o a i _ _ _ wr => ∃ (k r : Nat), i = .int .i64 k ∧ a = .int .i64 (r : Int) ∧ k ≤ n ∧ Hid (r = frg false t xs k ∧ wr.ownsRow w.heap.size 3 1 o k (ils (fol false t xs) k) ∧ Below w.heap.size w wr)) (fun _ _ i _ _ _ _ => n - (intOf i).toNat)
  case atStart => exact ⟨0, 0, rfl, rfl, by omega, rfl, OW.out, BL.out⟩
  case round =>
    obtain ⟨k, r, rfl, rfl, hk, hrel⟩ := hrel
    by_cases h1 : k < n
    · obtain ⟨b, off, rfl, hlt, hcell⟩ := HC.out (by omega)
      have HCK : Hid (w.cell? ⟨b, off + k, none⟩ = some (.int .i64 (xs k))) := hcell k h1
      have c := (hrel.out.2.2.cell (p := ⟨b, off + k, none⟩) hlt).trans HCK.out
      have HSV : Hid (r = frg false t xs k) := hrel.out.1
      have HO := hrel.out.2.1
      have HB := hrel.out.2.2
      have hr : r < 65536 := by rw [hrel.out.1]; exact frg_lt _ _ _ _
      have hb1 : Bit (xs k) := HBT.out k h1
      obtain ⟨x, hx⟩ : ∃ x, x = xs k := ⟨_, rfl⟩
      rw [← hx] at c hb1
      obtain ⟨m, hm⟩ : ∃ m : Nat, m = r &&& t := ⟨_, rfl⟩
      have e1 : bits .and .i64 (r : Int) (t : Int) = (m : Int) := by rw [and_nat (by omega) (by omega), hm]
      have hmb : m < 65536 := by rw [hm]; exact Nat.lt_of_le_of_lt Nat.and_le_left hr
      obtain ⟨z, hz⟩ : ∃ z, z = xb x (pty m) := ⟨_, rfl⟩
      have HZ : Hid (z = fol false t xs k) := by rw [hz, hx, hm, hrel.out.1]; rfl
      have HZ0 : Hid (z = xb x (pty m)) := hz
      have HX : Hid (x = xs k) := hx
      have HBX : Hid (Bit x) := hb1
      have HHO : Hid (wr.ownsRow w.heap.size 3 1 u8 k (ils (fol false t xs) k)) := HO
      have HHB : Hid (Below w.heap.size w wr) := HB
      clear hx hm hz hcell hrel hb1 HO HB
      go_wp2
      go_loopw [11, 12] (fun y l wr2 => ∃ (q : Nat) (yv : Int), l = .int .i64 (q : Int) ∧ y = .int .i64 yv ∧ q < 65536 ∧ wr2 = wr ∧ Hid (Bit yv ∧ xb yv (pty q) = z)) (fun _ l _ => (intOf l).toNat)
      case atStart => exact ⟨m, x, rfl, rfl, hmb, rfl, HBX.out, HZ0.out.symm⟩
      case round =>
        rename World => wq
        obtain ⟨q, yv, rfl, rfl, hq, hwq, hrel⟩ := hrel
        obtain rfl : wr = wq := hwq.symm
        by_cases h2 : 0 < q
        · obtain ⟨p, hp⟩ : ∃ p : Nat, p = q / 2 := ⟨_, rfl⟩
          have e2 : (q : Int) / 2 = (p : Int) := by omega
          have e3 : (q : Int).tdiv 2 = (p : Int) := by rw [Int.tdiv_eq_ediv_of_nonneg (by omega)]; omega
          obtain ⟨d, hd⟩ : ∃ d : Int, d = ((q % 2 : Nat) : Int) := ⟨_, rfl⟩
          have e4 : (q : Int) % 2 = d := by omega
          have e5 : (q : Int).tmod 2 = d := by rw [Int.tmod_eq_emod_of_nonneg (by omega)]; omega
          have hdb : Bit d := by rw [hd]; exact mod2_bit q
          obtain ⟨y2, hy2⟩ : ∃ y2, y2 = xb yv d := ⟨_, rfl⟩
          have e6 : bits .xor .i64 yv d = y2 := by rw [hy2]; exact xor_bit hrel.out.1 hdb
          have HR2 : Hid (Bit y2 ∧ xb y2 (pty p) = z) := by
            refine ⟨by rw [hy2]; exact xb_bit _ _, ?_⟩
            rw [hy2, xb_assoc hrel.out.1 hdb (pty_bit p), hd, hp, ← pty_step]
            exact hrel.out.2
          have hpq : p < q := by omega
          clear hp hd hy2 hdb hrel
          go_wp2
          go_roundw
          case rel => exact ⟨p, y2, rfl, rfl, by omega, by trivial, HR2.out⟩
          case measure => simp [intOf]; omega
        · obtain rfl : q = 0 := by omega
          have hyz : yv = z := by have h3 := hrel.out.2; rw [pty_zero, xb_zero hrel.out.1] at h3; exact h3
          have hzb : Bit z := by rw [← hyz]; exact hrel.out.1
          obtain rfl : z = yv := hyz.symm
          have HO := HHO.out
          have HB := HHB.out
          obtain ⟨r2, hr2⟩ : ∃ r2 : Nat, r2 = frg false t xs (k + 1) := ⟨_, rfl⟩
          have HR : Hid (r2 = frg false t xs (k + 1)) := hr2
          have e7 : (2 * (r : Int) + z) % 65536 = (r2 : Int) := by
            rw [hr2, frg_next, ← HSV.out, ← HZ.out]
            have hbx := hzb
            show _ = (((2 * r + Int.toNat z) % 65536 : Nat) : Int)
            omega
          have e8 : (2 * (r : Int) + z).tmod 65536 = (r2 : Int) := by
            rw [Int.tmod_eq_emod_of_nonneg (by have hbx := hzb; omega)]; exact e7
          have hxr : z = 0 ∨ z = 1 := hzb
          clear hr2 hrel hzb
          have hb3 := below_one wr (.cells #[.int .i64 z] 3)
          have HO3 := own_below HO hb3
          have HB3 := bstep HB hb3
          clear hb3
          go_wp2_with (first | (at_builtin; refine wpList_append_own _ rfl _ _ 22 rfl w.heap.size 3 i0 (.int .i64 0) 1 8 Try.underlying22 hi hz0 hz1 hz2 rfl (by decide) _ _ _ rfl HO3 ⟨wr.heap.size, 0, none⟩ 1 1 [.int .i64 z] rfl rfl (one_new _ _ _) (by simp [Value.oneCell']) (by unfold maxLen; omega) (by omega) HB3.size ?_))
          intro v' w4 hown' hgrow _
          have HB4 : Hid (Below w.heap.size w w4) := grown_below HB3 (Nat.le_refl _) HO3 hgrow
          rw [show Value.int .i64 z = .int .i64 (fol false t xs k) from congrArg _ HZ.out, ← ils_snoc (fol false t xs) k] at hown'
          have HO4 : Hid (w4.ownsRow w.heap.size 3 1 v' (k + 1) (ils (fol false t xs) (k + 1))) := hown'
          clear hown' hgrow HB3 HO3
          skip
          go_wp2
          go_roundw
          case rel => exact ⟨k + 1, r2, by go_num, rfl, by omega, HR.out, HO4.out, HB4.out⟩
          case measure => simp [intOf]; omega
    · obtain rfl : n = k := by omega
      go_wp2
      go_ret2
      exact ⟨_, rfl, hrel.out.2.1, hrel.out.2.2⟩

set_option maxHeartbeats 2000000 in
theorem sFo_bad_false {w : World} {v : Value} {n : Nat} {xs : Nat → Int} {t : Int} (hv : Il w v n xs) (hn : n ≤ 1048576) (h : ¬ GFo n xs t) (ys : Nat → Int) :
    Calls Try.prog 13 #[v, .int .i64 t, .bool false] w fun e w' => Pst w w' e 0 ys false := by
  have i1 := sBits_any (hv.below (below_one w (.cells #[] 3))) hn
  have i2 := in_any t 0 65535
  obtain ⟨ao, cap, rfl, hcap, hc⟩ := hv
  clear hc
  by_cases c1 : Bts n xs
  · rw [decide_eq_true c1] at i1
    rw [decide_eq_false (fun c2 => h ⟨c1, c2⟩)] at i2
    clear h c1
    go_enter Try.func13, Try.ntmps13
    go_wp2_with (first | (go_at_call 17; (with_reducible refine (i1).mono ?_); rintro e w' ⟨rfl, hw⟩; obtain rfl := hw.symm) | (go_at_call 18; (with_reducible refine (i2 _).mono ?_); rintro e w' ⟨rfl, hw⟩; obtain rfl := hw.symm))
    go_ret2
    exact ⟨_, rfl, own_empty w 3 1, below_one _ _⟩
  · rw [decide_eq_false c1] at i1
    clear h c1
    clear i2
    go_enter Try.func13, Try.ntmps13
    go_wp2_with (first | (go_at_call 17; (with_reducible refine (i1).mono ?_); rintro e w' ⟨rfl, hw⟩; obtain rfl := hw.symm))
    go_ret2
    exact ⟨_, rfl, own_empty w 3 1, below_one _ _⟩
set_option maxHeartbeats 8000000 in
theorem sFo_true {w : World} {v : Value} {n t : Nat} {xs : Nat → Int} (hv : Il w v n xs) (h : GFo n xs (t : Int)) :
    Calls Try.prog 13 #[v, .int .i64 (t : Int), .bool true] w fun e w' => Pst w w' e n (fol true t xs) true := by
  obtain ⟨i0, hi, hz0, hz1, hz2⟩ := info_parts Try.info3
  obtain ⟨h, ht0, ht⟩ := h
  have h5 := h.1
  have HBT : Hid (∀ k, k < n → Bit (xs k)) := h.2
  have i1 := sBits_any (hv.below (below_one w (.cells #[] 3))) (by omega)
  rw [decide_eq_true h] at i1
  have i2 := in_any (t : Int) 0 65535
  rw [decide_eq_true (by omega)] at i2
  have OW : Hid ((w.alloc (.cells #[] 3)).ownsRow w.heap.size 3 1 (.slice (some ⟨w.heap.size, 0, none⟩) 0 0) 0 (ils (fol true t xs) 0)) := own_empty w 3 1
  have BL : Hid (Below w.heap.size w (w.alloc (.cells #[] 3))) := below_one _ _
  obtain ⟨ao, cap, rfl, hcap, hc⟩ := hv
  have HC : Hid (0 < n → ∃ b off, ao = some ⟨b, off, none⟩ ∧ b < w.heap.size ∧ ∀ k, k < n → w.cell? ⟨b, off + k, none⟩ = some (.int .i64 (xs k))) := hc
  clear hc h
  go_enter Try.func13, Try.ntmps13
  go_wp2_with (first | (go_at_call 17; (with_reducible refine (i1).mono ?_); rintro e w' ⟨rfl, hw⟩; obtain rfl := hw.symm) | (go_at_call 18; (with_reducible refine (i2 _).mono ?_); rintro e w' ⟨rfl, hw⟩; obtain rfl := hw.symm))
  clear i1 i2
  generalize w.alloc (.cells #[] 3) = W at *
  go_loopw [8, 9, 10, 11, 12, 13] (fun o a i _ _ _ wr => ∃ (k r : Nat), i = .int .i64 k ∧ a = .int .i64 (r : Int) ∧ k ≤ n ∧ Hid (r = frg true t xs k ∧ wr.ownsRow w.heap.size 3 1 o k (ils (fol true t xs) k) ∧ Below w.heap.size w wr)) (fun _ _ i _ _ _ _ => n - (intOf i).toNat)
  case atStart => exact ⟨0, 0, rfl, rfl, by omega, rfl, OW.out, BL.out⟩
  case round =>
    obtain ⟨k, r, rfl, rfl, hk, hrel⟩ := hrel
    by_cases h1 : k < n
    · obtain ⟨b, off, rfl, hlt, hcell⟩ := HC.out (by omega)
      have HCK : Hid (w.cell? ⟨b, off + k, none⟩ = some (.int .i64 (xs k))) := hcell k h1
      have c := (hrel.out.2.2.cell (p := ⟨b, off + k, none⟩) hlt).trans HCK.out
      have HSV : Hid (r = frg true t xs k) := hrel.out.1
      have HO := hrel.out.2.1
      have HB := hrel.out.2.2
      have hr : r < 65536 := by rw [hrel.out.1]; exact frg_lt _ _ _ _
      have hb1 : Bit (xs k) := HBT.out k h1
      obtain ⟨x, hx⟩ : ∃ x, x = xs k := ⟨_, rfl⟩
      rw [← hx] at c hb1
      obtain ⟨m, hm⟩ : ∃ m : Nat, m = r &&& t := ⟨_, rfl⟩
      have e1 : bits .and .i64 (r : Int) (t : Int) = (m : Int) := by rw [and_nat (by omega) (by omega), hm]
      have hmb : m < 65536 := by rw [hm]; exact Nat.lt_of_le_of_lt Nat.and_le_left hr
      obtain ⟨z, hz⟩ : ∃ z, z = xb x (pty m) := ⟨_, rfl⟩
      have HZ : Hid (z = fol true t xs k) := by rw [hz, hx, hm, hrel.out.1]; rfl
      have HZ0 : Hid (z = xb x (pty m)) := hz
      have HX : Hid (x = xs k) := hx
      have HBX : Hid (Bit x) := hb1
      have HHO : Hid (wr.ownsRow w.heap.size 3 1 u8 k (ils (fol true t xs) k)) := HO
      have HHB : Hid (Below w.heap.size w wr) := HB
      clear hx hm hz hcell hrel hb1 HO HB
      go_wp2
      go_loopw [11, 12] (fun y l wr2 => ∃ (q : Nat) (yv : Int), l = .int .i64 (q : Int) ∧ y = .int .i64 yv ∧ q < 65536 ∧ wr2 = wr ∧ Hid (Bit yv ∧ xb yv (pty q) = z)) (fun _ l _ => (intOf l).toNat)
      case atStart => exact ⟨m, x, rfl, rfl, hmb, rfl, HBX.out, HZ0.out.symm⟩
      case round =>
        rename World => wq
        obtain ⟨q, yv, rfl, rfl, hq, hwq, hrel⟩ := hrel
        obtain rfl : wr = wq := hwq.symm
        by_cases h2 : 0 < q
        · obtain ⟨p, hp⟩ : ∃ p : Nat, p = q / 2 := ⟨_, rfl⟩
          have e2 : (q : Int) / 2 = (p : Int) := by omega
          have e3 : (q : Int).tdiv 2 = (p : Int) := by rw [Int.tdiv_eq_ediv_of_nonneg (by omega)]; omega
          obtain ⟨d, hd⟩ : ∃ d : Int, d = ((q % 2 : Nat) : Int) := ⟨_, rfl⟩
          have e4 : (q : Int) % 2 = d := by omega
          have e5 : (q : Int).tmod 2 = d := by rw [Int.tmod_eq_emod_of_nonneg (by omega)]; omega
          have hdb : Bit d := by rw [hd]; exact mod2_bit q
          obtain ⟨y2, hy2⟩ : ∃ y2, y2 = xb yv d := ⟨_, rfl⟩
          have e6 : bits .xor .i64 yv d = y2 := by rw [hy2]; exact xor_bit hrel.out.1 hdb
          have HR2 : Hid (Bit y2 ∧ xb y2 (pty p) = z) := by
            refine ⟨by rw [hy2]; exact xb_bit _ _, ?_⟩
            rw [hy2, xb_assoc hrel.out.1 hdb (pty_bit p), hd, hp, ← pty_step]
            exact hrel.out.2
          have hpq : p < q := by omega
          clear hp hd hy2 hdb hrel
          go_wp2
          go_roundw
          case rel => exact ⟨p, y2, rfl, rfl, by omega, by trivial, HR2.out⟩
          case measure => simp [intOf]; omega
        · obtain rfl : q = 0 := by omega
          have hyz : yv = z := by have h3 := hrel.out.2; rw [pty_zero, xb_zero hrel.out.1] at h3; exact h3
          have hzb : Bit z := by rw [← hyz]; exact hrel.out.1
          obtain rfl : z = yv := hyz.symm
          have HO := HHO.out
          have HB := HHB.out
          obtain ⟨r2, hr2⟩ : ∃ r2 : Nat, r2 = frg true t xs (k + 1) := ⟨_, rfl⟩
          have HR : Hid (r2 = frg true t xs (k + 1)) := hr2
          have e7 : (2 * (r : Int) + x) % 65536 = (r2 : Int) := by
            rw [hr2, frg_next, ← HSV.out, ← HX.out]
            have hbx := HBX.out
            show _ = (((2 * r + Int.toNat x) % 65536 : Nat) : Int)
            omega
          have e8 : (2 * (r : Int) + x).tmod 65536 = (r2 : Int) := by
            rw [Int.tmod_eq_emod_of_nonneg (by have hbx := HBX.out; omega)]; exact e7
          have hxr : x = 0 ∨ x = 1 := HBX.out
          clear hr2 hrel hzb
          have hb3 := below_one wr (.cells #[.int .i64 z] 3)
          have HO3 := own_below HO hb3
          have HB3 := bstep HB hb3
          clear hb3
          go_wp2_with (first | (at_builtin; refine wpList_append_own _ rfl _ _ 22 rfl w.heap.size 3 i0 (.int .i64 0) 1 8 Try.underlying22 hi hz0 hz1 hz2 rfl (by decide) _ _ _ rfl HO3 ⟨wr.heap.size, 0, none⟩ 1 1 [.int .i64 z] rfl rfl (one_new _ _ _) (by simp [Value.oneCell']) (by unfold maxLen; omega) (by omega) HB3.size ?_))
          intro v' w4 hown' hgrow _
          have HB4 : Hid (Below w.heap.size w w4) := grown_below HB3 (Nat.le_refl _) HO3 hgrow
          rw [show Value.int .i64 z = .int .i64 (fol true t xs k) from congrArg _ HZ.out, ← ils_snoc (fol true t xs) k] at hown'
          have HO4 : Hid (w4.ownsRow w.heap.size 3 1 v' (k + 1) (ils (fol true t xs) (k + 1))) := hown'
          clear hown' hgrow HB3 HO3
          have c4 := (HB4.out.cell (p := ⟨b, off + k, none⟩) hlt).trans HCK.out; rw [← HX.out] at c4
          go_wp2
          go_roundw
          case rel => exact ⟨k + 1, r2, by go_num, rfl, by omega, HR.out, HO4.out, HB4.out⟩
          case measure => simp [intOf]; omega
    · obtain rfl : n = k := by omega
      go_wp2
      go_ret2
      exact ⟨_, rfl, hrel.out.2.1, hrel.out.2.2⟩

set_option maxHeartbeats 2000000 in
theorem sFo_bad_true {w : World} {v : Value} {n : Nat} {xs : Nat → Int} {t : Int} (hv : Il w v n xs) (hn : n ≤ 1048576) (h : ¬ GFo n xs t) (ys : Nat → Int) :
    Calls Try.prog 13 #[v, .int .i64 t, .bool true] w fun e w' => Pst w w' e 0 ys false := by
  have i1 := sBits_any (hv.below (below_one w (.cells #[] 3))) hn
  have i2 := in_any t 0 65535
  obtain ⟨ao, cap, rfl, hcap, hc⟩ := hv
  clear hc
  by_cases c1 : Bts n xs
  · rw [decide_eq_true c1] at i1
    rw [decide_eq_false (fun c2 => h ⟨c1, c2⟩)] at i2
    clear h c1
    go_enter Try.func13, Try.ntmps13
    go_wp2_with (first | (go_at_call 17; (with_reducible refine (i1).mono ?_); rintro e w' ⟨rfl, hw⟩; obtain rfl := hw.symm) | (go_at_call 18; (with_reducible refine (i2 _).mono ?_); rintro e w' ⟨rfl, hw⟩; obtain rfl := hw.symm))
    go_ret2
    exact ⟨_, rfl, own_empty w 3 1, below_one _ _⟩
  · rw [decide_eq_false c1] at i1
    clear h c1
    clear i2
    go_enter Try.func13, Try.ntmps13
    go_wp2_with (first | (go_at_call 17; (with_reducible refine (i1).mono ?_); rintro e w' ⟨rfl, hw⟩; obtain rfl := hw.symm))
    go_ret2
    exact ⟨_, rfl, own_empty w 3 1, below_one _ _⟩
theorem sFollow_good {w : World} {v : Value} {n t : Nat} {xs : Nat → Int} (hv : Il w v n xs) (h : GFo n xs (t : Int)) :
    Calls Try.prog 5 #[v, .int .i64 (t : Int)] w fun e w' => Pst w w' e n (fol false t xs) true := by
  have i1 := sFo_false hv h
  clear hv h
  go_enter Try.func5, Try.ntmps5
  go_wp2_with (first | (go_at_call 13; (with_reducible refine i1.mono ?_); rintro e w1 ⟨u, rfl, ho, hb⟩; have HO : Hid (w1.ownsRow w.heap.size 3 1 u n (ils (fol false t xs) n)) := ho; have HB : Hid (Below w.heap.size w w1) := hb; clear ho hb))
  go_ret2
  exact ⟨_, rfl, HO.out, HB.out⟩

theorem sFollow_bad {w : World} {v : Value} {n : Nat} {xs : Nat → Int} {t : Int} (hv : Il w v n xs) (hn : n ≤ 1048576) (h : ¬ GFo n xs t) (ys : Nat → Int) :
    Calls Try.prog 5 #[v, .int .i64 t] w fun e w' => Pst w w' e 0 ys false := by
  have i1 := sFo_bad_false hv hn h ys
  clear hv h hn
  go_enter Try.func5, Try.ntmps5
  go_wp2_with (first | (go_at_call 13; (with_reducible refine i1.mono ?_); rintro e w1 ⟨u, rfl, ho, hb⟩; have HO : Hid (w1.ownsRow w.heap.size 3 1 u 0 (ils ys 0)) := ho; have HB : Hid (Below w.heap.size w w1) := hb; clear ho hb))
  go_ret2
  exact ⟨_, rfl, HO.out, HB.out⟩

theorem sUnFollow_good {w : World} {v : Value} {n t : Nat} {xs : Nat → Int} (hv : Il w v n xs) (h : GFo n xs (t : Int)) :
    Calls Try.prog 11 #[v, .int .i64 (t : Int)] w fun e w' => Pst w w' e n (fol true t xs) true := by
  have i1 := sFo_true hv h
  clear hv h
  go_enter Try.func11, Try.ntmps11
  go_wp2_with (first | (go_at_call 13; (with_reducible refine i1.mono ?_); rintro e w1 ⟨u, rfl, ho, hb⟩; have HO : Hid (w1.ownsRow w.heap.size 3 1 u n (ils (fol true t xs) n)) := ho; have HB : Hid (Below w.heap.size w w1) := hb; clear ho hb))
  go_ret2
  exact ⟨_, rfl, HO.out, HB.out⟩

theorem sUnFollow_bad {w : World} {v : Value} {n : Nat} {xs : Nat → Int} {t : Int} (hv : Il w v n xs) (hn : n ≤ 1048576) (h : ¬ GFo n xs t) (ys : Nat → Int) :
    Calls Try.prog 11 #[v, .int .i64 t] w fun e w' => Pst w w' e 0 ys false := by
  have i1 := sFo_bad_true hv hn h ys
  clear hv h hn
  go_enter Try.func11, Try.ntmps11
  go_wp2_with (first | (go_at_call 13; (with_reducible refine i1.mono ?_); rintro e w1 ⟨u, rfl, ho, hb⟩; have HO : Hid (w1.ownsRow w.heap.size 3 1 u 0 (ils ys 0)) := ho; have HB : Hid (Below w.heap.size w w1) := hb; clear ho hb))
  go_ret2
  exact ⟨_, rfl, HO.out, HB.out⟩
end Go.Proofs.Ytklkfiippjjedaa
