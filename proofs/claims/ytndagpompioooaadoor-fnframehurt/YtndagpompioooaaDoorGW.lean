/- Guess: both sides. -/
import Derived.Test.YtndagpompioooaaDoorGV
import Derived.Test.YtndagpompioooaaDoorPST
import Derived.Test.YtndagpompioooaaDoorI1
import Derived.Test.YtndagpompioooaaDoorC1
import Derived.BigQuiet
import Derived.RegionTactic
namespace Go.Proofs.YtndagpompioooaaDoor
open Go.RowKit

theorem order_any (x : Int) (w : World) : Calls Tryd.prog 85 #[.int .i64 x] w fun e w' => e = .returned (.bool (decide (0 ≤ x ∧ x ≤ 3))) ∧ w' = w := by
  go_enter Tryd.func85, Tryd.ntmps85
  by_cases h : 0 ≤ x
  · by_cases h1 : x ≤ 3
    · go_wp2
      go_ret
      exact ⟨by simp [h, h1], rfl⟩
    · go_wp2
      go_ret
      exact ⟨by simp [h1], rfl⟩
  · go_wp2
    go_ret
    exact ⟨by simp; omega, rfl⟩

set_option maxRecDepth 20000 in
set_option maxHeartbeats 4000000 in
theorem iGuess_good {w : World} {v : Value} {n : Nat} {xs : Nat → Int} (hv : Il w v n xs) (h : Sig n xs) {o : Nat} (ho : o ≤ 3) :
    Calls Tryd.prog 80 #[.int .i64 (o : Int), v] w fun e w' => Pst w w' e n (gus o xs) true := by
  obtain ⟨i0, hi, hz0, hz1, hz2⟩ := info_parts Tryd.info3
  have h5 := h.1
  have HBT : Hid (∀ k, k < n → Smp (xs k)) := h.2
  have i1 := iSig_any (hv.below (below_one w (.cells #[] 3))) (by omega)
  rw [decide_eq_true h] at i1
  have i2 := order_any (o : Int)
  rw [decide_eq_true (by omega)] at i2
  have OW : Hid ((w.alloc (.cells #[] 3)).ownsRow w.heap.size 3 1 (.slice (some ⟨w.heap.size, 0, none⟩) 0 0) 0 (ils (gus o xs) 0)) := own_empty w 3 1
  have BL : Hid (Below w.heap.size w (w.alloc (.cells #[] 3))) := below_one _ _
  obtain ⟨ao, cap, rfl, hcap, hc⟩ := hv
  have HC : Hid (0 < n → ∃ b off, ao = some ⟨b, off, none⟩ ∧ b < w.heap.size ∧ ∀ k, k < n → w.cell? ⟨b, off + k, none⟩ = some (.int .i64 (xs k))) := hc
  clear hc h
  go_enter Tryd.func80, Tryd.ntmps80
  go_wp2_with (first | (go_at_call 55; (with_reducible refine (i1).mono ?_); rintro e w' ⟨rfl, hw⟩; obtain rfl := hw.symm) | (go_at_call 85; (with_reducible refine (i2 _).mono ?_); rintro e w' ⟨rfl, hw⟩; obtain rfl := hw.symm))
  clear i1 i2
  generalize w.alloc (.cells #[] 3) = W at *
  go_loopw [6, 7, 8, 21] (fun q _ _ i wr => ∃ (k : Nat), i = .int .i64 k ∧ k ≤ n ∧ Hid (wr.ownsRow w.heap.size 3 1 q k (ils (gus o xs) k) ∧ Below w.heap.size w wr)) (fun _ _ _ i _ => n - (intOf i).toNat)
  case atStart => exact ⟨0, rfl, by omega, OW.out, BL.out⟩
  case round =>
    obtain ⟨k, rfl, hk, hrel⟩ := hrel
    by_cases h1 : k < n
    · obtain ⟨b, off, rfl, hlt, hcell⟩ := HC.out (by omega)
      have hs1 := HBT.out k h1
      have hf1 := fore_bounds (o := o) (xs := xs) (k := k) (fun j hj => HBT.out j (by omega))
      have HO : Hid (wr.ownsRow w.heap.size 3 1 _ k (ils (gus o xs) k)) := hrel.out.1
      have HB : Hid (Below w.heap.size w wr) := hrel.out.2
      have HZ : Hid (Value.int .i64 (xs k - fore o xs k) = .int .i64 (gus o xs k)) := rfl
      have c := (hrel.out.2.cell (p := ⟨b, off + k, none⟩) hlt).trans (hcell k h1)
      have ft : Calls Tryd.prog 92 #[.int .i64 (o : Int), .slice (some ⟨b, off, none⟩) k cap] wr fun e w' => e = .returned (.int .i64 (fore o xs k)) ∧ Below wr.heap.size wr w' :=
        iFore_any ⟨_, _, rfl, by omega, fun _ => ⟨b, off, rfl, Nat.lt_of_lt_of_le hlt hrel.out.2.size, fun j hj => (hrel.out.2.cell (p := ⟨b, off + j, none⟩) hlt).trans (hcell j (by omega))⟩⟩ (fun j hj => HBT.out j (by omega)) (by omega) ho
      clear hcell hrel
      generalize fore o xs k = f at *
      generalize xs k = x at *
      go_wp2_with (first
        | (go_at_call 92; (with_reducible refine ft.mono ?_); rintro e w5 ⟨rfl, hb5⟩; have HO3 : Hid ((w5.alloc (.cells #[.int .i64 (x - f)] 3)).ownsRow w.heap.size 3 1 _ k (ils (gus o xs) k)) := own_below (own_below HO.out hb5) (below_one _ _); have HB3 : Hid (Below w.heap.size w (w5.alloc (.cells #[.int .i64 (x - f)] 3))) := bstep (bstep HB.out hb5) (below_one _ _); clear hb5)
        | (at_builtin; refine wpList_append_own _ rfl _ _ 24 rfl w.heap.size 3 i0 (.int .i64 0) 1 8 Tryd.underlying24 hi hz0 hz1 hz2 rfl (by decide) _ _ _ rfl HO3.out ⟨w5.heap.size, 0, none⟩ 1 1 [.int .i64 (x - f)] rfl rfl (one_new _ _ _) (by simp [Value.oneCell']) (by unfold maxLen; omega) (by omega) HB3.out.size ?_; intro v' w4 hown' hgrow _; have HB4 : Hid (Below w.heap.size w w4) := grown_below HB3.out (Nat.le_refl _) HO3.out hgrow; rw [HZ.out, ← ils_snoc (gus o xs) k] at hown'; have HO4 : Hid (w4.ownsRow w.heap.size 3 1 v' (k + 1) (ils (gus o xs) (k + 1))) := hown'; clear hown' hgrow HB3 HO3))
      go_wp2
      go_roundw
      case rel => exact ⟨k + 1, by go_num, by omega, HO4.out, HB4.out⟩
      case measure => simp [intOf]; omega
    · obtain rfl : n = k := by omega
      go_wp2
      go_ret2
      exact ⟨_, rfl, hrel.out.1, hrel.out.2⟩

set_option maxRecDepth 20000 in
set_option maxHeartbeats 4000000 in
theorem sGuess_good {w : World} {v : Value} {n : Nat} {xs : Nat → Int} (hv : Il w v n xs) (h : Sig n xs) {o : Nat} (ho : o ≤ 3) :
    Calls Tryd.prog 67 #[.int .i64 (o : Int), v] w fun e w' => Pst w w' e n (gus o xs) true := by
  obtain ⟨i0, hi, hz0, hz1, hz2⟩ := info_parts Tryd.info3
  have h5 := h.1
  have HBT : Hid (∀ k, k < n → Smp (xs k)) := h.2
  have i1 := sSig_any (hv.below (below_one w (.cells #[] 3))) (by omega)
  rw [decide_eq_true h] at i1
  have i2 := in_any (o : Int) 0 3
  rw [decide_eq_true (by omega)] at i2
  have OW : Hid ((w.alloc (.cells #[] 3)).ownsRow w.heap.size 3 1 (.slice (some ⟨w.heap.size, 0, none⟩) 0 0) 0 (ils (gus o xs) 0)) := own_empty w 3 1
  have BL : Hid (Below w.heap.size w (w.alloc (.cells #[] 3))) := below_one _ _
  obtain ⟨ao, cap, rfl, hcap, hc⟩ := hv
  have HC : Hid (0 < n → ∃ b off, ao = some ⟨b, off, none⟩ ∧ b < w.heap.size ∧ ∀ k, k < n → w.cell? ⟨b, off + k, none⟩ = some (.int .i64 (xs k))) := hc
  clear hc h
  go_enter Tryd.func67, Tryd.ntmps67
  go_wp2_with (first | (go_at_call 58; (with_reducible refine (i1).mono ?_); rintro e w' ⟨rfl, hw⟩; obtain rfl := hw.symm) | (go_at_call 59; (with_reducible refine (i2 _).mono ?_); rintro e w' ⟨rfl, hw⟩; obtain rfl := hw.symm))
  clear i1 i2
  generalize w.alloc (.cells #[] 3) = W at *
  go_loopw [6, 7] (fun q i wr => ∃ (k : Nat), i = .int .i64 k ∧ k ≤ n ∧ Hid (wr.ownsRow w.heap.size 3 1 q k (ils (gus o xs) k) ∧ Below w.heap.size w wr)) (fun _ i _ => n - (intOf i).toNat)
  case atStart => exact ⟨0, rfl, by omega, OW.out, BL.out⟩
  case round =>
    obtain ⟨k, rfl, hk, hrel⟩ := hrel
    by_cases h1 : k < n
    · obtain ⟨b, off, rfl, hlt, hcell⟩ := HC.out (by omega)
      have hs1 := HBT.out k h1
      have hf1 := fore_bounds (o := o) (xs := xs) (k := k) (fun j hj => HBT.out j (by omega))
      have HO : Hid (wr.ownsRow w.heap.size 3 1 _ k (ils (gus o xs) k)) := hrel.out.1
      have HB : Hid (Below w.heap.size w wr) := hrel.out.2
      have HZ : Hid (Value.int .i64 (xs k - fore o xs k) = .int .i64 (gus o xs k)) := rfl
      have CK : Hid (w.cell? ⟨b, off + k, none⟩ = some (.int .i64 (xs k))) := hcell k h1
      have ft : ∀ X, Below w.heap.size w X → Calls Tryd.prog 83 #[.int .i64 (o : Int), .slice (some ⟨b, off, none⟩) n cap, .int .i64 (k : Int)] X fun e w' => e = .returned (.int .i64 (fore o xs k)) ∧ Below X.heap.size X w' := fun X hX =>
        sFore_any ⟨_, _, rfl, hcap, fun _ => ⟨b, off, rfl, Nat.lt_of_lt_of_le hlt hX.size, fun j hj => (hX.cell (p := ⟨b, off + j, none⟩) hlt).trans (hcell j hj)⟩⟩ (fun j hj => HBT.out j (by omega)) (by omega) (by omega) ho
      clear hcell hrel
      generalize fore o xs k = f at *
      generalize xs k = x at *
      go_upto_region 7 with fail
      refine wp_region_any (by kernel_rfl) ?_
      change wpAny _ _ _ _ _ _ _ (World.drew _)
      refine wpI_any (I := fun X => Below w.heap.size w X) _ _ _ _ ?_
      have l0 : Below wr.heap.size wr wr.drew := (Below.refl _ _).drew
      have k0 : Below w.heap.size w wr.drew := bstep HB.out l0
      refine wpI_take (i := 0) (v := ?_) rfl (by kernel_rfl) (by kernel_rfl) (by kernel_rfl) (fun _ _ _ h => h) ⟨by rfl, ?_⟩ ?_
      rotate_left
      · intro X hI; go_simp; try go_bits
        try rw [if_pos (by omega)]
        try with_reducible rfl
      refine wpI_take (i := 1) (v := ?_) rfl (by kernel_rfl) (by kernel_rfl) (by kernel_rfl) (fun _ _ _ h => h) ⟨by rfl, ?_⟩ ?_
      rotate_left
      · intro X hI; go_simp; try go_bits
        try rw [if_pos (by omega)]
        try with_reducible rfl
      refine wpI_take (i := 2) (v := ?_) rfl (by kernel_rfl) (by kernel_rfl) (by kernel_rfl) (fun _ _ _ h => h) ⟨by rfl, ?_⟩ ?_
      rotate_left
      · intro X hI; go_simp; try go_bits
        try rw [if_pos (by omega)]
        try with_reducible rfl
      refine wpI_take (i := 3) (v := ?_) rfl (by kernel_rfl) (by kernel_rfl) (by kernel_rfl) (fun _ _ _ h => h) ⟨by rfl, ?_⟩ ?_
      rotate_left
      · intro X hI; go_simp; try go_bits
        try rw [if_pos (by omega)]
        try with_reducible rfl
      refine wpI_take (i := 4) (v := ?_) rfl (by kernel_rfl) (by kernel_rfl) (by kernel_rfl) (fun _ _ _ h => h) ⟨by rfl, ?_⟩ ?_
      rotate_left
      · intro X hI; have c := (hI.cell (p := ⟨b, off + k, none⟩) hlt).trans CK.out; go_simp; try go_bits
        try rw [if_pos (by omega)]
        try with_reducible rfl
      refine wpI_take (i := 5) (v := ?_) rfl (by kernel_rfl) (by kernel_rfl) (by kernel_rfl) (fun _ _ _ h => h) ⟨by rfl, ?_⟩ ?_
      rotate_left
      · intro X hI; go_simp; try go_bits
        try rw [if_pos (by omega)]
        try with_reducible rfl
      refine wpI_take (i := 6) (v := ?_) rfl (by kernel_rfl) (by kernel_rfl) (by kernel_rfl) (fun _ _ _ h => h) ⟨by rfl, ?_⟩ ?_
      rotate_left
      · intro X hI; go_simp; try go_bits
        try rw [if_pos (by omega)]
        try with_reducible rfl
      refine wpI_take (i := 7) (v := ?_) rfl (by kernel_rfl) (by kernel_rfl) (by kernel_rfl) (fun _ _ _ h => h) ⟨by rfl, ?_⟩ ?_
      rotate_left
      · intro X hI; go_simp; try go_bits
        try rw [if_pos (by omega)]
        try with_reducible rfl
      refine wpI_only (i := 8) rfl (by kernel_rfl) k0 (by rfl) ?_
      intro K hK
      go_simp
      go_wp2_with (go_at_call 83; (with_reducible refine (ft _ k0).mono ?_); rintro e w5 ⟨rfl, hb5⟩; have l1 : Below wr.heap.size wr w5 := bstep (w := wr) l0 hb5; have k1 : Below w.heap.size w w5 := bstep HB.out l1; have HO3 : Hid ((w5.alloc (.cells #[.int .i64 (x - f)] 3)).ownsRow w.heap.size 3 1 _ k (ils (gus o xs) k)) := own_below (own_below HO.out l1) (below_one _ _); have HB3 : Hid (Below w.heap.size w (w5.alloc (.cells #[.int .i64 (x - f)] 3))) := bstep (bstep HB.out l1) (below_one _ _); clear hb5)
      refine wpI_take (i := 9) (v := ?_) rfl (by kernel_rfl) (by kernel_rfl) (by kernel_rfl) (fun _ _ _ h => h) ⟨by rfl, ?_⟩ ?_
      rotate_left
      · intro X hI; go_simp; try go_bits
        try rw [if_pos (by omega)]
        try with_reducible rfl
      refine wpI_only (i := 10) rfl (by kernel_rfl) k1 (by rfl) ?_
      intro K hK
      go_simp
      refine hK _ _ ?_
      refine wpI_only (i := 11) rfl (by kernel_rfl) HB3.out (by rfl) ?_
      intro K hK
      refine wp_app _ _ _ 24 rfl w.heap.size 3 i0 (.int .i64 0) 1 8 Tryd.underlying24 hi hz0 hz1 hz2 rfl (by decide) _ _ _ rfl HO3.out ⟨w5.heap.size, 0, none⟩ 1 1 [.int .i64 (x - f)] rfl rfl (fun j u h => one_new w5 _ 3 j u h) (by simp [Value.oneCell']) (by unfold maxLen; omega) (by omega) HB3.out.size (by decide) ?_
      intro v' w4 hown' hgrow _
      have HB4 : Hid (Below w.heap.size w w4) := grown_below HB3.out (Nat.le_refl _) HO3.out hgrow
      rw [HZ.out, ← ils_snoc (gus o xs) k] at hown'
      have HO4 : Hid (w4.ownsRow w.heap.size 3 1 v' (k + 1) (ils (gus o xs) (k + 1))) := hown'
      clear hown' hgrow
      refine hK _ _ ?_
      refine wpI_take (i := 12) (v := ?_) rfl (by kernel_rfl) (by kernel_rfl) (by kernel_rfl) (fun _ _ _ h => h) ⟨by rfl, ?_⟩ ?_
      rotate_left
      · intro X hI; go_simp; try go_bits
        try rw [if_pos (by omega)]
        try with_reducible rfl
      refine wpI_done HB4.out (by kernel_rfl) ?_ _
      go_wp2
      go_roundw
      case rel => exact ⟨k + 1, by go_num, by omega, HO4.out, HB4.out⟩
      case measure => simp [intOf]; omega
    · obtain rfl : n = k := by omega
      go_wp2
      go_ret2
      exact ⟨_, rfl, hrel.out.1, hrel.out.2⟩

set_option maxRecDepth 20000 in
set_option maxHeartbeats 2000000 in
theorem iGuess_bad {w : World} {v : Value} {n : Nat} {xs : Nat → Int} (hv : Il w v n xs) (hn : n ≤ 1048576) {od : Int} (h : ¬ ((0 ≤ od ∧ od ≤ 3) ∧ Sig n xs)) (ys : Nat → Int) :
    Calls Tryd.prog 80 #[.int .i64 od, v] w fun e w' => Pst w w' e 0 ys false := by
  have i1 := order_any od
  have i2 := iSig_any (hv.below (below_one w (.cells #[] 3))) hn
  obtain ⟨ao, cap, rfl, hcap, hc⟩ := hv
  clear hc
  by_cases c1 : 0 ≤ od ∧ od ≤ 3
  · rw [decide_eq_true c1] at i1
    rw [decide_eq_false (fun c2 => h ⟨c1, c2⟩)] at i2
    clear h
    go_enter Tryd.func80, Tryd.ntmps80
    go_wp2_with (first | (go_at_call 85; (with_reducible refine (i1 _).mono ?_); rintro e w' ⟨rfl, hw⟩; obtain rfl := hw.symm) | (go_at_call 55; (with_reducible refine (i2).mono ?_); rintro e w' ⟨rfl, hw⟩; obtain rfl := hw.symm))
    go_ret2
    exact ⟨_, rfl, own_empty w 3 1, below_one _ _⟩
  · rw [decide_eq_false c1] at i1
    clear h
    clear i2
    go_enter Tryd.func80, Tryd.ntmps80
    go_wp2_with (first | (go_at_call 85; (with_reducible refine (i1 _).mono ?_); rintro e w' ⟨rfl, hw⟩; obtain rfl := hw.symm))
    go_ret2
    exact ⟨_, rfl, own_empty w 3 1, below_one _ _⟩
set_option maxRecDepth 20000 in
set_option maxHeartbeats 2000000 in
theorem sGuess_bad {w : World} {v : Value} {n : Nat} {xs : Nat → Int} (hv : Il w v n xs) (hn : n ≤ 1048576) {od : Int} (h : ¬ ((0 ≤ od ∧ od ≤ 3) ∧ Sig n xs)) (ys : Nat → Int) :
    Calls Tryd.prog 67 #[.int .i64 od, v] w fun e w' => Pst w w' e 0 ys false := by
  have i1 := in_any od 0 3
  have i2 := sSig_any (hv.below (below_one w (.cells #[] 3))) hn
  obtain ⟨ao, cap, rfl, hcap, hc⟩ := hv
  clear hc
  by_cases c1 : 0 ≤ od ∧ od ≤ 3
  · rw [decide_eq_true c1] at i1
    rw [decide_eq_false (fun c2 => h ⟨c1, c2⟩)] at i2
    clear h
    go_enter Tryd.func67, Tryd.ntmps67
    go_wp2_with (first | (go_at_call 59; (with_reducible refine (i1 _).mono ?_); rintro e w' ⟨rfl, hw⟩; obtain rfl := hw.symm) | (go_at_call 58; (with_reducible refine (i2).mono ?_); rintro e w' ⟨rfl, hw⟩; obtain rfl := hw.symm))
    go_ret2
    exact ⟨_, rfl, own_empty w 3 1, below_one _ _⟩
  · rw [decide_eq_false c1] at i1
    clear h
    clear i2
    go_enter Tryd.func67, Tryd.ntmps67
    go_wp2_with (first | (go_at_call 59; (with_reducible refine (i1 _).mono ?_); rintro e w' ⟨rfl, hw⟩; obtain rfl := hw.symm))
    go_ret2
    exact ⟨_, rfl, own_empty w 3 1, below_one _ _⟩
end Go.Proofs.YtndagpompioooaaDoor
