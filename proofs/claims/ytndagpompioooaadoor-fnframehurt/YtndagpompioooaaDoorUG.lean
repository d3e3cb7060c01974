/- UnGuess: both sides. -/
import Derived.Test.YtndagpompioooaaDoorGW
import Derived.Test.YtndagpompioooaaDoorWA
import Derived.BigQuiet
import Derived.RegionTactic
namespace Go.Proofs.YtndagpompioooaaDoor
open Go.RowKit

set_option maxRecDepth 20000 in
set_option maxHeartbeats 4000000 in
theorem iUnG_good {w : World} {v : Value} {n : Nat} {xs : Nat → Int} (hv : Il w v n xs) (h5 : n ≤ 512) (h : Wth 10000000000 n xs) {o : Nat} (ho : o ≤ 3) (A : Bool) (hA : A = decide (∀ k, k < n → Smp (ugf o xs k))) (N : Nat) (hN : N = if A = true then n else 0) :
    Calls Tryd.prog 87 #[.int .i64 (o : Int), v] w fun e w' => Pst w w' e N (ugf o xs) A := by
  obtain ⟨i0, hi, hz0, hz1, hz2⟩ := info_parts Tryd.info3
  have HBT : Hid (∀ k, k < n → -10000000000 ≤ xs k ∧ xs k ≤ 10000000000) := h
  have HA : Hid (A = decide (∀ k, k < n → Smp (ugf o xs k))) := hA
  have i1 := iWth_any (M := 10000000000) hv (by omega) (by omega)
  rw [decide_eq_true h] at i1
  have i2 := order_any (o : Int)
  rw [decide_eq_true (by omega)] at i2
  have OW : Hid ((w.alloc (.cells #[] 3)).ownsRow w.heap.size 3 1 (.slice (some ⟨w.heap.size, 0, none⟩) 0 0) 0 (ils (ugf o xs) 0)) := own_empty w 3 1
  have BL : Hid (Below w.heap.size w (w.alloc (.cells #[] 3))) := below_one _ _
  obtain ⟨ao, cap, rfl, hcap, hc⟩ := hv
  have HC : Hid (0 < n → ∃ b off, ao = some ⟨b, off, none⟩ ∧ b < w.heap.size ∧ ∀ k, k < n → w.cell? ⟨b, off + k, none⟩ = some (.int .i64 (xs k))) := hc
  have HN : Hid (N = if A = true then n else 0) := hN
  clear hc h hA hN
  go_enter Tryd.func87, Tryd.ntmps87
  go_wp2_with (first | (go_at_call 72; (with_reducible refine (i1).mono ?_); rintro e w' ⟨rfl, hw⟩; obtain rfl := hw.symm) | (go_at_call 85; (with_reducible refine (i2 _).mono ?_); rintro e w' ⟨rfl, hw⟩; obtain rfl := hw.symm))
  clear i1 i2
  generalize w.alloc (.cells #[] 3) = W at *
  go_loopw [6, 8, 9, 27] (fun q _ _ i wr => ∃ (k : Nat), i = .int .i64 k ∧ k ≤ n ∧ Hid (wr.ownsRow w.heap.size 3 1 q k (ils (ugf o xs) k) ∧ Below w.heap.size w wr ∧ ∀ j, j < k → Smp (ugf o xs j))) (fun _ _ _ i _ => n - (intOf i).toNat)
  case atStart => exact ⟨0, rfl, by omega, OW.out, BL.out, fun j hj => by omega⟩
  case round =>
    obtain ⟨k, rfl, hk, hrel⟩ := hrel
    by_cases h1 : k < n
    · obtain ⟨b, off, rfl, hlt, hcell⟩ := HC.out (by omega)
      have hs1 := HBT.out k h1
      have hf1 := fore_bounds (o := o) (xs := ugf o xs) (k := k) hrel.out.2.2
      have HO : Hid (wr.ownsRow w.heap.size 3 1 _ k (ils (ugf o xs) k)) := hrel.out.1
      have HB : Hid (Below w.heap.size w wr) := hrel.out.2.1
      have HSA : Hid (∀ j, j < k → Smp (ugf o xs j)) := hrel.out.2.2
      have HU : Hid (ugf o xs k = xs k + fore o (ugf o xs) k) := ugf_eq o xs k
      have HE : Hid (∀ W : World, wr.heap.size ≤ W.heap.size → (W.alloc (.cells #[] 3)).ownsRow w.heap.size 3 1 (.slice (some ⟨W.heap.size, 0, none⟩) 0 0) 0 (ils (ugf o xs) 0)) := fun W hW => own_base (own_empty W 3 1) (Nat.le_trans hrel.out.2.1.size hW)
      have c := (hrel.out.2.1.cell (p := ⟨b, off + k, none⟩) hlt).trans (hcell k h1)
      have ft := iFore_any (il_of_own hrel.out.1) hrel.out.2.2 (by omega) ho
      clear hcell hrel
      have i3 := iSmp_any (xs k + fore o (ugf o xs) k)
      have HZ : Hid (Value.int .i64 (xs k + fore o (ugf o xs) k) = .int .i64 (ugf o xs k)) := by show _ = _; rw [HU.out]
      generalize fore o (ugf o xs) k = f at *
      generalize xs k = x at *
      by_cases hs : Smp (x + f)
      · rw [decide_eq_true hs] at i3
        have HS : Hid (Smp (x + f)) := hs
        clear hs
        go_wp2_with (first
          | (go_at_call 92; (with_reducible refine ft.mono ?_); rintro e w5 ⟨rfl, hb5⟩; have HO5 : Hid (w5.ownsRow w.heap.size 3 1 _ k (ils (ugf o xs) k)) := own_below HO.out hb5; have HB5 : Hid (Below w.heap.size w w5) := bstep HB.out hb5; have hs5 : wr.heap.size ≤ w5.heap.size := hb5.size; clear hb5)
          | (go_at_call 79; (with_reducible refine (i3 _).mono ?_); rintro e w' ⟨rfl, hw⟩; obtain rfl := hw.symm; have HO3 : Hid ((w5.alloc (.cells #[.int .i64 (x + f)] 3)).ownsRow w.heap.size 3 1 _ k (ils (ugf o xs) k)) := own_below HO5.out (below_one _ _); have HB3 : Hid (Below w.heap.size w (w5.alloc (.cells #[.int .i64 (x + f)] 3))) := bstep HB5.out (below_one _ _))
          | (at_builtin; refine wpList_append_own _ rfl _ _ 24 rfl w.heap.size 3 i0 (.int .i64 0) 1 8 Tryd.underlying24 hi hz0 hz1 hz2 rfl (by decide) _ _ _ rfl HO3.out ⟨w5.heap.size, 0, none⟩ 1 1 [.int .i64 (x + f)] rfl rfl (one_new _ _ _) (by simp [Value.oneCell']) (by unfold maxLen; omega) (by omega) HB3.out.size ?_; intro v' w4 hown' hgrow _; have HB4 : Hid (Below w.heap.size w w4) := grown_below HB3.out (Nat.le_refl _) HO3.out hgrow; rw [HZ.out, ← ils_snoc (ugf o xs) k] at hown'; have HO4 : Hid (w4.ownsRow w.heap.size 3 1 v' (k + 1) (ils (ugf o xs) (k + 1))) := hown'; clear hown' hgrow HB3 HO3))
        go_wp2
        go_roundw
        case rel =>
          refine ⟨k + 1, by go_num, by omega, HO4.out, HB4.out, fun j hj => ?_⟩
          by_cases hjk : j = k
          · subst hjk; rw [HU.out]; exact HS.out
          · exact HSA.out j (by omega)
        case measure => simp [intOf]; omega
      · rw [decide_eq_false hs] at i3
        have HS : Hid (¬ Smp (x + f)) := hs
        clear hs
        go_wp2_with (first
          | (go_at_call 92; (with_reducible refine ft.mono ?_); rintro e w5 ⟨rfl, hb5⟩; have HO5 : Hid (w5.ownsRow w.heap.size 3 1 _ k (ils (ugf o xs) k)) := own_below HO.out hb5; have HB5 : Hid (Below w.heap.size w w5) := bstep HB.out hb5; have hs5 : wr.heap.size ≤ w5.heap.size := hb5.size; clear hb5)
          | (go_at_call 79; (with_reducible refine (i3 _).mono ?_); rintro e w' ⟨rfl, hw⟩; obtain rfl := hw.symm))
        go_ret2
        have hF : A = false := by rw [HA.out]; exact decide_eq_false (fun h => HS.out (by have := h k h1; rw [HU.out] at this; exact this))
        have hN : N = 0 := by rw [HN.out, hF]; rfl
        rw [hF, hN]
        exact ⟨_, rfl, HE.out _ hs5, bstep HB5.out (below_one _ _)⟩
    · obtain rfl : n = k := by omega
      go_wp2
      go_ret2
      have hF : A = true := by rw [HA.out]; exact decide_eq_true hrel.out.2.2
      have hN : N = n := by rw [HN.out, hF]; rfl
      rw [hF, hN]
      exact ⟨_, rfl, hrel.out.1, hrel.out.2.1⟩

set_option maxRecDepth 20000 in
set_option maxHeartbeats 4000000 in
theorem sUnG_good {w : World} {v : Value} {n : Nat} {xs : Nat → Int} (hv : Il w v n xs) (h5 : n ≤ 512) (h : Wth 10000000000 n xs) {o : Nat} (ho : o ≤ 3) (A : Bool) (hA : A = decide (∀ k, k < n → Smp (ugf o xs k))) (N : Nat) (hN : N = if A = true then n else 0) :
    Calls Tryd.prog 71 #[.int .i64 (o : Int), v] w fun e w' => Pst w w' e N (ugf o xs) A := by
  obtain ⟨i0, hi, hz0, hz1, hz2⟩ := info_parts Tryd.info3
  have HBT : Hid (∀ k, k < n → -10000000000 ≤ xs k ∧ xs k ≤ 10000000000) := h
  have HA : Hid (A = decide (∀ k, k < n → Smp (ugf o xs k))) := hA
  have i1 := sWth_any (M := 10000000000) (hv.below (below_one w (.cells #[] 3))) (by omega) (by omega)
  rw [decide_eq_true h] at i1
  have i2 := in_any (o : Int) 0 3
  rw [decide_eq_true (by omega)] at i2
  have OW : Hid ((w.alloc (.cells #[] 3)).ownsRow w.heap.size 3 1 (.slice (some ⟨w.heap.size, 0, none⟩) 0 0) 0 (ils (ugf o xs) 0)) := own_empty w 3 1
  have BL : Hid (Below w.heap.size w (w.alloc (.cells #[] 3))) := below_one _ _
  obtain ⟨ao, cap, rfl, hcap, hc⟩ := hv
  have HC : Hid (0 < n → ∃ b off, ao = some ⟨b, off, none⟩ ∧ b < w.heap.size ∧ ∀ k, k < n → w.cell? ⟨b, off + k, none⟩ = some (.int .i64 (xs k))) := hc
  have HN : Hid (N = if A = true then n else 0) := hN
  clear hc h hA hN
  go_enter Tryd.func71, Tryd.ntmps71
  go_wp2_with (first | (go_at_call 73; (with_reducible refine (i1).mono ?_); rintro e w' ⟨rfl, hw⟩; obtain rfl := hw.symm) | (go_at_call 59; (with_reducible refine (i2 _).mono ?_); rintro e w' ⟨rfl, hw⟩; obtain rfl := hw.symm))
  clear i1 i2
  generalize w.alloc (.cells #[] 3) = W at *
  go_loopw [6, 7, 8] (fun q i _ wr => ∃ (k : Nat), i = .int .i64 k ∧ k ≤ n ∧ Hid (wr.ownsRow w.heap.size 3 1 q k (ils (ugf o xs) k) ∧ Below w.heap.size w wr ∧ ∀ j, j < k → Smp (ugf o xs j))) (fun _ i _ _ => n - (intOf i).toNat)
  case atStart => exact ⟨0, rfl, by omega, OW.out, BL.out, fun j hj => by omega⟩
  case round =>
    obtain ⟨k, rfl, hk, hrel⟩ := hrel
    by_cases h1 : k < n
    · obtain ⟨b, off, rfl, hlt, hcell⟩ := HC.out (by omega)
      have hs1 := HBT.out k h1
      have hf1 := fore_bounds (o := o) (xs := ugf o xs) (k := k) hrel.out.2.2
      have HO : Hid (wr.ownsRow w.heap.size 3 1 _ k (ils (ugf o xs) k)) := hrel.out.1
      have HB : Hid (Below w.heap.size w wr) := hrel.out.2.1
      have HSA : Hid (∀ j, j < k → Smp (ugf o xs j)) := hrel.out.2.2
      have HU : Hid (ugf o xs k = xs k + fore o (ugf o xs) k) := ugf_eq o xs k
      have HE : Hid (∀ W : World, wr.heap.size ≤ W.heap.size → (W.alloc (.cells #[] 3)).ownsRow w.heap.size 3 1 (.slice (some ⟨W.heap.size, 0, none⟩) 0 0) 0 (ils (ugf o xs) 0)) := fun W hW => own_base (own_empty W 3 1) (Nat.le_trans hrel.out.2.1.size hW)
      have CK : Hid (wr.cell? ⟨b, off + k, none⟩ = some (.int .i64 (xs k))) := (hrel.out.2.1.cell (p := ⟨b, off + k, none⟩) hlt).trans (hcell k h1)
      have hlt2 : b < wr.heap.size := Nat.lt_of_lt_of_le hlt hrel.out.2.1.size
      have ft := fun (X : World) (hX : Below wr.heap.size wr X) => sFore_any (il_of_own (own_below hrel.out.1 hX)) hrel.out.2.2 (by omega) (Nat.le_refl k) ho
      clear hcell hrel
      have i3 := sSmp_any (xs k + fore o (ugf o xs) k)
      have HZ : Hid (Value.int .i64 (xs k + fore o (ugf o xs) k) = .int .i64 (ugf o xs k)) := by show _ = _; rw [HU.out]
      generalize fore o (ugf o xs) k = f at *
      generalize xs k = x at *
      go_upto_region 7 with fail
      refine wp_region_any (by kernel_rfl) ?_
      change wpAny _ _ _ _ _ _ _ (World.drew _)
      refine wpI_any (I := fun X => Below wr.heap.size wr X) _ _ _ _ ?_
      have l0 : Below wr.heap.size wr wr.drew := (Below.refl _ _).drew
      refine wpI_take (i := 0) (v := ?_) rfl (by kernel_rfl) (by kernel_rfl) (by kernel_rfl) (fun _ _ _ h => h) ⟨by rfl, ?_⟩ ?_
      rotate_left
      · intro X hI; go_simp; try go_bits
        try rw [if_pos (by omega)]
        try with_reducible rfl
      refine wpI_take (i := 1) (v := ?_) rfl (by kernel_rfl) (by kernel_rfl) (by kernel_rfl) (fun _ _ _ h => h) ⟨by rfl, ?_⟩ ?_
      rotate_left
      · intro X hI; go_simp; try go_bits
        try rw [if_pos (by omega)]
        try with_reducible rfl
      refine wpI_take (i := 2) (v := ?_) rfl (by kernel_rfl) (by kernel_rfl) (by kernel_rfl) (fun _ _ _ h => h) ⟨by rfl, ?_⟩ ?_
      rotate_left
      · intro X hI; go_simp; try go_bits
        try rw [if_pos (by omega)]
        try with_reducible rfl
      refine wpI_take (i := 3) (v := ?_) rfl (by kernel_rfl) (by kernel_rfl) (by kernel_rfl) (fun _ _ _ h => h) ⟨by rfl, ?_⟩ ?_
      rotate_left
      · intro X hI; have c := (hI.cell (p := ⟨b, off + k, none⟩) hlt2).trans CK.out; go_simp; try go_bits
        try rw [if_pos (by omega)]
        try with_reducible rfl
      refine wpI_take (i := 4) (v := ?_) rfl (by kernel_rfl) (by kernel_rfl) (by kernel_rfl) (fun _ _ _ h => h) ⟨by rfl, ?_⟩ ?_
      rotate_left
      · intro X hI; go_simp; try go_bits
        try rw [if_pos (by omega)]
        try with_reducible rfl
      refine wpI_take (i := 5) (v := ?_) rfl (by kernel_rfl) (by kernel_rfl) (by kernel_rfl) (fun _ _ _ h => h) ⟨by rfl, ?_⟩ ?_
      rotate_left
      · intro X hI; go_simp; try go_bits
        try rw [if_pos (by omega)]
        try with_reducible rfl
      refine wpI_take (i := 6) (v := ?_) rfl (by kernel_rfl) (by kernel_rfl) (by kernel_rfl) (fun _ _ _ h => h) ⟨by rfl, ?_⟩ ?_
      rotate_left
      · intro X hI; go_simp; try go_bits
        try rw [if_pos (by omega)]
        try with_reducible rfl
      refine wpI_only (i := 7) rfl (by kernel_rfl) l0 (by rfl) ?_
      intro K hK
      go_simp
      go_wp2_with (go_at_call 83; (with_reducible refine (ft _ l0).mono ?_); rintro e w5 ⟨rfl, hb5⟩; have l1 : Below wr.heap.size wr w5 := bstep (w := wr) l0 hb5; have HO5 : Hid (w5.ownsRow w.heap.size 3 1 _ k (ils (ugf o xs) k)) := own_below HO.out l1; have HB5 : Hid (Below w.heap.size w w5) := bstep HB.out l1; have hs5 : wr.heap.size ≤ w5.heap.size := l1.size; clear hb5)
      refine wpI_take (i := 8) (v := ?_) rfl (by kernel_rfl) (by kernel_rfl) (by kernel_rfl) (fun _ _ _ h => h) ⟨by rfl, ?_⟩ ?_
      rotate_left
      · intro X hI; go_simp; try go_bits
        try rw [if_pos (by omega)]
        try with_reducible rfl
      refine wpI_take (i := 9) (v := ?_) rfl (by kernel_rfl) (by kernel_rfl) (by kernel_rfl) (fun _ _ _ h => h) ⟨by rfl, ?_⟩ ?_
      rotate_left
      · intro X hI; go_simp; try go_bits
        try rw [if_pos (by omega)]
        try with_reducible rfl
      refine wpI_done l1 (by kernel_rfl) ?_ _
      by_cases hs : Smp (x + f)
      · rw [decide_eq_true hs] at i3
        have HS : Hid (Smp (x + f)) := hs
        clear hs
        go_wp2_with (first
          | (fail)
          | (go_at_call 78; (with_reducible refine (i3 _).mono ?_); rintro e w' ⟨rfl, hw⟩; obtain rfl := hw.symm; have HO3 : Hid ((w5.alloc (.cells #[.int .i64 (x + f)] 3)).ownsRow w.heap.size 3 1 _ k (ils (ugf o xs) k)) := own_below HO5.out (below_one _ _); have HB3 : Hid (Below w.heap.size w (w5.alloc (.cells #[.int .i64 (x + f)] 3))) := bstep HB5.out (below_one _ _))
          | (at_builtin; refine wpList_append_own _ rfl _ _ 24 rfl w.heap.size 3 i0 (.int .i64 0) 1 8 Tryd.underlying24 hi hz0 hz1 hz2 rfl (by decide) _ _ _ rfl HO3.out ⟨w5.heap.size, 0, none⟩ 1 1 [.int .i64 (x + f)] rfl rfl (one_new _ _ _) (by simp [Value.oneCell']) (by unfold maxLen; omega) (by omega) HB3.out.size ?_; intro v' w4 hown' hgrow _; have HB4 : Hid (Below w.heap.size w w4) := grown_below HB3.out (Nat.le_refl _) HO3.out hgrow; rw [HZ.out, ← ils_snoc (ugf o xs) k] at hown'; have HO4 : Hid (w4.ownsRow w.heap.size 3 1 v' (k + 1) (ils (ugf o xs) (k + 1))) := hown'; clear hown' hgrow HB3 HO3))
        go_wp2
        go_roundw
        case rel =>
          refine ⟨k + 1, by go_num, by omega, HO4.out, HB4.out, fun j hj => ?_⟩
          by_cases hjk : j = k
          · subst hjk; rw [HU.out]; exact HS.out
          · exact HSA.out j (by omega)
        case measure => simp [intOf]; omega
      · rw [decide_eq_false hs] at i3
        have HS : Hid (¬ Smp (x + f)) := hs
        clear hs
        go_wp2_with (first
          | (fail)
          | (go_at_call 78; (with_reducible refine (i3 _).mono ?_); rintro e w' ⟨rfl, hw⟩; obtain rfl := hw.symm))
        go_ret2
        have hF : A = false := by rw [HA.out]; exact decide_eq_false (fun h => HS.out (by have := h k h1; rw [HU.out] at this; exact this))
        have hN : N = 0 := by rw [HN.out, hF]; rfl
        rw [hF, hN]
        exact ⟨_, rfl, HE.out _ hs5, bstep HB5.out (below_one _ _)⟩
    · obtain rfl : n = k := by omega
      go_wp2
      go_ret2
      have hF : A = true := by rw [HA.out]; exact decide_eq_true hrel.out.2.2
      have hN : N = n := by rw [HN.out, hF]; rfl
      rw [hF, hN]
      exact ⟨_, rfl, hrel.out.1, hrel.out.2.1⟩

set_option maxRecDepth 20000 in
set_option maxHeartbeats 2000000 in
theorem iUnG_bad {w : World} {v : Value} {n : Nat} {xs : Nat → Int} (hv : Il w v n xs) (hn : n ≤ 1048576) {od : Int} (h : ¬ ((0 ≤ od ∧ od ≤ 3) ∧ n ≤ 512 ∧ Wth 10000000000 n xs)) (ys : Nat → Int) :
    Calls Tryd.prog 87 #[.int .i64 od, v] w fun e w' => Pst w w' e 0 ys false := by
  have i1 := order_any od
  have i3 := iWth_any (M := 10000000000) hv hn (by omega)
  obtain ⟨ao, cap, rfl, hcap, hc⟩ := hv
  clear hc
  by_cases c1 : 0 ≤ od ∧ od ≤ 3
  · rw [decide_eq_true c1] at i1
    by_cases c2 : n ≤ 512
    · skip
      rw [decide_eq_false (fun c3 => h ⟨c1, c2, c3⟩)] at i3
      clear h
      go_enter Tryd.func87, Tryd.ntmps87
      go_wp2_with (first | (go_at_call 85; (with_reducible refine (i1 _).mono ?_); rintro e w' ⟨rfl, hw⟩; obtain rfl := hw.symm) | (go_at_call 72; (with_reducible refine (i3).mono ?_); rintro e w' ⟨rfl, hw⟩; obtain rfl := hw.symm))
      go_ret2
      exact ⟨_, rfl, own_empty w 3 1, below_one _ _⟩
    · skip
      clear h
      clear i3
      go_enter Tryd.func87, Tryd.ntmps87
      go_wp2_with (first | (go_at_call 85; (with_reducible refine (i1 _).mono ?_); rintro e w' ⟨rfl, hw⟩; obtain rfl := hw.symm))
      go_ret2
      exact ⟨_, rfl, own_empty w 3 1, below_one _ _⟩
  · rw [decide_eq_false c1] at i1
    clear h
    clear i3
    go_enter Tryd.func87, Tryd.ntmps87
    go_wp2_with (first | (go_at_call 85; (with_reducible refine (i1 _).mono ?_); rintro e w' ⟨rfl, hw⟩; obtain rfl := hw.symm))
    go_ret2
    exact ⟨_, rfl, own_empty w 3 1, below_one _ _⟩
set_option maxRecDepth 20000 in
set_option maxHeartbeats 2000000 in
theorem sUnG_bad {w : World} {v : Value} {n : Nat} {xs : Nat → Int} (hv : Il w v n xs) (hn : n ≤ 1048576) {od : Int} (h : ¬ ((0 ≤ od ∧ od ≤ 3) ∧ n ≤ 512 ∧ Wth 10000000000 n xs)) (ys : Nat → Int) :
    Calls Tryd.prog 71 #[.int .i64 od, v] w fun e w' => Pst w w' e 0 ys false := by
  have i1 := in_any od 0 3
  have i3 := sWth_any (M := 10000000000) (hv.below (below_one w (.cells #[] 3))) hn (by omega)
  obtain ⟨ao, cap, rfl, hcap, hc⟩ := hv
  clear hc
  by_cases c1 : 0 ≤ od ∧ od ≤ 3
  · rw [decide_eq_true c1] at i1
    by_cases c2 : n ≤ 512
    · skip
      rw [decide_eq_false (fun c3 => h ⟨c1, c2, c3⟩)] at i3
      clear h
      go_enter Tryd.func71, Tryd.ntmps71
      go_wp2_with (first | (go_at_call 59; (with_reducible refine (i1 _).mono ?_); rintro e w' ⟨rfl, hw⟩; obtain rfl := hw.symm) | (go_at_call 73; (with_reducible refine (i3).mono ?_); rintro e w' ⟨rfl, hw⟩; obtain rfl := hw.symm))
      go_ret2
      exact ⟨_, rfl, own_empty w 3 1, below_one _ _⟩
    · skip
      clear h
      clear i3
      go_enter Tryd.func71, Tryd.ntmps71
      go_wp2_with (first | (go_at_call 59; (with_reducible refine (i1 _).mono ?_); rintro e w' ⟨rfl, hw⟩; obtain rfl := hw.symm))
      go_ret2
      exact ⟨_, rfl, own_empty w 3 1, below_one _ _⟩
  · rw [decide_eq_false c1] at i1
    clear h
    clear i3
    go_enter Tryd.func71, Tryd.ntmps71
    go_wp2_with (first | (go_at_call 59; (with_reducible refine (i1 _).mono ?_); rintro e w' ⟨rfl, hw⟩; obtain rfl := hw.symm))
    go_ret2
    exact ⟨_, rfl, own_empty w 3 1, below_one _ _⟩
end Go.Proofs.YtndagpompioooaaDoor
