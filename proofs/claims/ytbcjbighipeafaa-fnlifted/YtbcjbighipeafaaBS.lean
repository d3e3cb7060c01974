/- LiftBack: the model. -/
import Derived.Test.YtbcjbighipeafaaSP
import Derived.Test.YtbcjbighipeafaaBA
namespace Go.Proofs.Ytbcjbighipeafaa
open Go.RowKit

set_option maxRecDepth 20000 in
set_option maxHeartbeats 8000000 in
theorem sBack_any {w : World} {v1 v2 : Value} {n m : Nat} {lo hs : Nat → Int} {kind M : Int} (hk : Knd kind) (hv1 : Il w v1 n lo) (hv2 : Il w v2 m hs) (hmn : m ≤ n) (hnm : n ≤ m + 1) (hn : n + m ≤ 1048576) (hM4 : 4 ≤ M) (hM : M ≤ 1000000000000000) (hl : Wth M n lo) (hh : Wth M m hs) :
    Calls Try.prog 34 #[.int .i64 kind, v1, v2] w fun e w' => P1 w w' e (n + m) (bck kind n m lo hs) := by
  obtain ⟨i0, hi, hz0, hz1, hz2⟩ := info_parts Try.info3
  have bn : n ≤ 1048576 := by omega
  have bm : m ≤ 1048576 := by omega
  have WL : Hid (Wth M n lo) := hl
  have WH : Hid (Wth M m hs) := hh
  have HEV : Hid (Wth (2 * M) n (bev kind m lo hs)) := bev_with hM4 hl hh
  clear hl hh
  have V2 : Hid (Il w v2 m hs) := hv2
  obtain ⟨ao, cap, rfl, hcap, hc⟩ := hv1
  have HC : Hid (0 < n → ∃ b off, ao = some ⟨b, off, none⟩ ∧ b < w.heap.size ∧ ∀ k, k < n → w.cell? ⟨b, off + k, none⟩ = some (.int .i64 (lo k))) := hc
  obtain ⟨ho, hcp, rfl, hcap2, hc2⟩ := hv2
  have HC2 : Hid (0 < m → ∃ b off, ho = some ⟨b, off, none⟩ ∧ b < w.heap.size ∧ ∀ k, k < m → w.cell? ⟨b, off + k, none⟩ = some (.int .i64 (hs k))) := hc2
  clear hc hc2
  go_enter Try.func34, Try.ntmps34
  go_wp2
  go_loopw [7, 8] (fun o i wr => ∃ k : Nat, i = .int .i64 k ∧ k ≤ n ∧ Hid (wr.ownsRow w.heap.size 3 1 o k (ils (bev kind m lo hs) k) ∧ Below w.heap.size w wr)) (fun _ i _ => n - (intOf i).toNat)
  case atStart => exact ⟨0, rfl, by omega, own_empty w 3 1, below_one _ _⟩
  case round =>
    obtain ⟨k, rfl, hk2, hrel⟩ := hrel
    by_cases h1 : k < n
    · obtain ⟨b1, off1, rfl, hlt, hcell⟩ := HC.out (by omega)
      have c : wr.drew.cell? ⟨b1, off1 + k, none⟩ = some (.int .i64 (lo k)) := (hrel.out.2.cell (p := ⟨b1, off1 + k, none⟩) hlt).trans (hcell k h1)
      have ev : Il wr.drew (.slice ho m hcp) m hs := (V2.out.below hrel.out.2).below (Below.refl _ _).drew
      have gc := sMend_any hk ev bm (M := M) (by omega) WH.out k (by omega)
      have e1 : Hid (lo k - md kind m hs k = (bev kind m lo hs) k) := rfl
      have y0 := WL.out k h1
      have y1 := md_bounds (kind := kind) hM4 WH.out k
      have hcell := hcell k h1
      generalize md kind m hs k = Gv at e1 gc y1
      generalize lo k = Xv at e1 c y0 hcell
      have l0 : wr.drew.cell? ⟨b1, off1 + k, none⟩ = some (.int .i64 Xv) := c
      clear c ev
      go_wp2
      refine wp_region_any (by kernel_rfl) ?_
      change wpAny _ _ _ _ _ _ _ (World.drew _)
      refine wpI_any (I := fun X => X.cell? ⟨b1, off1 + k, none⟩ = some (.int .i64 Xv)) _ _ _ _ ?_
      refine wpI_take (i := 0) (v := ?_) rfl (by kernel_rfl) (by kernel_rfl) (by kernel_rfl) (fun _ _ _ h => h) ⟨by rfl, ?_⟩ ?_
      rotate_left
      · intro X hI; go_simp; try go_bits
        try rw [if_pos (by omega)]
        try with_reducible rfl
      refine wpI_take (i := 1) (v := ?_) rfl (by kernel_rfl) (by kernel_rfl) (by kernel_rfl) (fun _ _ _ h => h) ⟨by rfl, ?_⟩ ?_
      rotate_left
      · intro X hI; go_simp; try go_bits
        try rw [if_pos (by omega)]
        try with_reducible rfl
      refine wpI_take (i := 2) (v := ?_) rfl (by kernel_rfl) (by kernel_rfl) (by kernel_rfl) (fun _ _ _ h => h) ⟨by rfl, ?_⟩ ?_
      rotate_left
      · intro X hI; go_simp; try go_bits
        try rw [if_pos (by omega)]
        try with_reducible rfl
      refine wpI_take (i := 3) (v := ?_) rfl (by kernel_rfl) (by kernel_rfl) (by kernel_rfl) (fun _ _ _ h => h) ⟨by rfl, ?_⟩ ?_
      rotate_left
      · intro X hI; go_simp; try go_bits
        try rw [if_pos (by omega)]
        try with_reducible rfl
      refine wpI_take (i := 4) (v := ?_) rfl (by kernel_rfl) (by kernel_rfl) (by kernel_rfl) (fun _ _ _ h => h) ⟨by rfl, ?_⟩ ?_
      rotate_left
      · intro X hI; go_simp; try go_bits
        try rw [if_pos (by omega)]
        try with_reducible rfl
      refine wpI_take (i := 5) (v := ?_) rfl (by kernel_rfl) (by kernel_rfl) (by kernel_rfl) (fun _ _ _ h => h) ⟨by rfl, ?_⟩ ?_
      rotate_left
      · intro X hI; go_simp; try go_bits
        try rw [if_pos (by omega)]
        try with_reducible rfl
      refine wpI_take (i := 6) (v := ?_) rfl (by kernel_rfl) (by kernel_rfl) (by kernel_rfl) (fun _ _ _ h => h) ⟨by rfl, ?_⟩ ?_
      rotate_left
      · intro X hI; go_simp; try go_bits
        try rw [if_pos (by omega)]
        try with_reducible rfl
      refine wpI_take (i := 7) (v := ?_) rfl (by kernel_rfl) (by kernel_rfl) (by kernel_rfl) (fun _ _ _ h => h) ⟨by rfl, ?_⟩ ?_
      rotate_left
      · intro X hI; go_simp; try go_bits
        try rw [if_pos (by omega)]
        try with_reducible rfl
      refine wpI_only (i := 8) rfl (by kernel_rfl) l0 (by rfl) ?_
      intro K hK
      go_simp
      go_wp2_with (go_at_call 43; (with_reducible refine gc.mono ?_); rintro e X1 ⟨rfl, mm, hX1⟩; have hb1 : Below wr.heap.size wr X1 := (by rw [hX1]; exact below_drewN (Below.refl _ _).drew mm); have l1 : X1.cell? ⟨b1, off1 + k, none⟩ = some (.int .i64 Xv) := (by rw [hX1]; exact l0); have hb2 := bstep hb1 (below_one X1 (.cells #[.int .i64 (Xv - Gv)] 3)); have HO3 : Hid _ := own_below hrel.out.1 hb2; have HB3 : Hid _ := bstep hrel.out.2 hb2; have l2 : (X1.alloc (.cells #[.int .i64 (Xv - Gv)] 3)).cell? ⟨b1, off1 + k, none⟩ = some (.int .i64 Xv) := ((below_one X1 _).cell (World.block_lt_of_cell? _ _ l1)).trans l1; clear hb1 hb2 hX1)
      refine wpI_only (i := 9) rfl (by kernel_rfl) l1 (by rfl) ?_
      intro K hK
      go_simp
      try go_bits
      try rw [if_pos (by omega)]
      refine hK _ _ ?_
      refine wpI_only (i := 10) rfl (by kernel_rfl) l1 (by rfl) ?_
      intro K hK
      go_simp
      try go_bits
      try rw [if_pos (by omega)]
      refine hK _ _ ?_
      refine wpI_only (i := 11) rfl (by kernel_rfl) l2 (by rfl) ?_
      intro K hK
      refine wp_app _ _ _ 24 rfl w.heap.size 3 i0 (.int .i64 0) 1 8 Try.underlying24 hi hz0 hz1 hz2 rfl (by decide) _ _ _ rfl HO3.out ⟨X1.heap.size, 0, none⟩ 1 1 [.int .i64 (Xv - Gv)] rfl rfl (fun j u h => one_new X1 _ 3 j u h) (by simp [Value.oneCell']) (by unfold maxLen; omega) (by omega) HB3.out.size (by decide) ?_
      intro v5 w5 hown' hgrow hkeep
      have HB5 : Hid (Below w.heap.size w w5) := grown_below HB3.out (Nat.le_refl _) HO3.out hgrow
      have l3 : w5.cell? ⟨b1, off1 + k, none⟩ = some (.int .i64 Xv) := (HB5.out.cell (p := ⟨b1, off1 + k, none⟩) (hlt)).trans hcell
      have HO5 : Hid (w5.ownsRow w.heap.size 3 1 v5 (k + 1) (ils (bev kind m lo hs) (k + 1))) := by show w5.ownsRow w.heap.size 3 1 v5 (k + 1) (ils (bev kind m lo hs) (k + 1)); rw [ils_snoc, ← e1.out]; exact hown'
      clear hown' hgrow hkeep
      refine hK _ _ ?_
      refine wpI_only (i := 12) rfl (by kernel_rfl) l3 (by rfl) ?_
      intro K hK
      go_simp
      try go_bits
      try rw [if_pos (by omega)]
      refine hK _ _ ?_
      refine wpI_done l3 (by kernel_rfl) ?_ _
      clear l0 l1 l2 l3 gc hrel
      go_wp2
      go_roundw
      case rel => exact ⟨k + 1, by go_num, by omega, HO5.out, HB5.out⟩
      case measure => simp [intOf]; omega
    · obtain rfl : n = k := by omega
      have H8 := hrel.out.1
      have B8 : Hid (Below w.heap.size w wr) := hrel.out.2
      obtain ⟨eao, ecap, hE, hec1, hec⟩ := il_of_own H8
      subst hE
      have HE8 : Hid (Il wr (.slice eao n ecap) n (bev kind m lo hs)) := ⟨eao, ecap, rfl, hec1, hec⟩
      have HEC : Hid (0 < n → ∃ b off, eao = some ⟨b, off, none⟩ ∧ b < wr.heap.size ∧ ∀ k, k < n → wr.cell? ⟨b, off + k, none⟩ = some (.int .i64 ((bev kind m lo hs) k))) := hec
      have O8 : Hid ((wr.alloc (.cells #[] 3)).ownsRow wr.heap.size 3 1 (.slice (some ⟨wr.heap.size, 0, none⟩) 0 0) 0 (ils (bck kind n m lo hs) 0)) := own_empty wr 3 1
      have bw8 : w.heap.size ≤ wr.heap.size := B8.out.size
      clear H8 hec hrel HC
      go_wp2
      generalize wr = W8 at B8 HE8 HEC O8 bw8 ⊢
      go_loopw [9, 10] (fun o i W_ => ∃ k : Nat, i = .int .i64 k ∧ k ≤ n ∧ Hid (W_.ownsRow W8.heap.size 3 1 o (k + min k m) (ils (bck kind n m lo hs) (k + min k m)) ∧ Below W8.heap.size W8 W_)) (fun _ i _ => n - (intOf i).toNat)
      case atStart => exact ⟨0, rfl, by omega, by rw [Nat.zero_min]; exact O8.out, below_one _ _⟩
      case round =>
        obtain ⟨k, rfl, hk3, hrel⟩ := hrel
        by_cases h1 : k < n
        · have hmin : k + min k m = 2 * k := by omega
          have R := hrel.out.1
          have RB := hrel.out.2
          rw [hmin] at R
          obtain ⟨b0, off0, rfl, hlt0, hcell0⟩ := HEC.out (by omega)
          have c0 : wr.cell? ⟨b0, off0 + k, none⟩ = some (.int .i64 ((bev kind m lo hs) k)) := (RB.cell (p := ⟨b0, off0 + k, none⟩) hlt0).trans (hcell0 k h1)
          have e0 : Hid ((bev kind m lo hs) k = (bck kind n m lo hs) (2 * k)) := (bck_even kind n m lo hs k).symm
          have hb3 := below_one wr (.cells #[.int .i64 ((bev kind m lo hs) k)] 3)
          have HO3 := own_below R hb3
          have HB3 := bstep RB hb3
          clear hcell0 R RB hb3 hrel hmin
          by_cases h2 : k < m
          · have EX : Hid (∀ W, Below W8.heap.size W8 W → Il W.drew (.slice (some ⟨b0, off0, none⟩) n ecap) n (bev kind m lo hs)) := fun W hW => (HE8.out.below hW).below (Below.refl _ _).drew
            obtain ⟨b1, off1, rfl, hlt, hcell⟩ := HC2.out (by omega)
            have c8 := (B8.out.cell (p := ⟨b1, off1 + k, none⟩) hlt).trans (hcell k h2)
            clear hcell
            generalize hXE : (bev kind m lo hs) k = XE at c0 HO3 HB3 e0
            have HXE : Hid _ := hXE
            clear hXE
            go_wp2_with (first | (at_builtin; refine wpList_app _ rfl _ _ 24 rfl W8.heap.size 3 i0 (.int .i64 0) 1 8 Try.underlying24 hi hz0 hz1 hz2 rfl (by decide) _ _ _ rfl HO3 ⟨wr.heap.size, 0, none⟩ 1 1 [.int .i64 XE] rfl rfl (one_new _ _ _) (by simp [Value.oneCell']) (by unfold maxLen; omega) (by omega) HB3.size (by decide) ?_))
            intro v4 w4 hown4 hgrow4 hkeep4
            have HB4 : Hid (Below W8.heap.size W8 w4) := grown_below HB3 (Nat.le_refl _) HO3 hgrow4
            have HO4 : Hid (w4.ownsRow W8.heap.size 3 1 v4 (2 * k + 1) (ils (bck kind n m lo hs) (2 * k + 1))) := by show w4.ownsRow W8.heap.size 3 1 v4 (2 * k + 1) (ils (bck kind n m lo hs) (2 * k + 1)); rw [ils_snoc, ← e0.out]; exact hown4
            clear hown4 hgrow4 hkeep4 HO3 HB3 c0 e0 HXE
            have gc := sGuess_any hk (EX.out w4 HB4.out) bn (M := 2 * M) (by omega) HEV.out k h1
            have c : w4.drew.cell? ⟨b1, off1 + k, none⟩ = some (.int .i64 (hs k)) := (HB4.out.cell (p := ⟨b1, off1 + k, none⟩) (by show b1 < W8.heap.size; omega)).trans c8
            have e1 : Hid (hs k + gs kind n (bev kind m lo hs) k = (bck kind n m lo hs) (2 * k + 1)) := (bck_odd kind n m lo hs k).symm
            have y0 := WH.out k h2
            have y1 := gs_bounds (kind := kind) (by omega) HEV.out h1
            generalize gs kind n (bev kind m lo hs) k = Gv at e1 gc y1
            generalize hs k = Xv at e1 c c8 y0
            have l0 : w4.drew.cell? ⟨b1, off1 + k, none⟩ = some (.int .i64 Xv) := c
            clear c EX
            go_wp2
            refine wp_region_any (by kernel_rfl) ?_
            change wpAny _ _ _ _ _ _ _ (World.drew _)
            refine wpI_any (I := fun X => X.cell? ⟨b1, off1 + k, none⟩ = some (.int .i64 Xv)) _ _ _ _ ?_
            refine wpI_take (i := 0) (v := ?_) rfl (by kernel_rfl) (by kernel_rfl) (by kernel_rfl) (fun _ _ _ h => h) ⟨by rfl, ?_⟩ ?_
            rotate_left
            · intro X hI; go_simp; try go_bits
              try rw [if_pos (by omega)]
              try with_reducible rfl
            refine wpI_take (i := 1) (v := ?_) rfl (by kernel_rfl) (by kernel_rfl) (by kernel_rfl) (fun _ _ _ h => h) ⟨by rfl, ?_⟩ ?_
            rotate_left
            · intro X hI; go_simp; try go_bits
              try rw [if_pos (by omega)]
              try with_reducible rfl
            refine wpI_take (i := 2) (v := ?_) rfl (by kernel_rfl) (by kernel_rfl) (by kernel_rfl) (fun _ _ _ h => h) ⟨by rfl, ?_⟩ ?_
            rotate_left
            · intro X hI; go_simp; try go_bits
              try rw [if_pos (by omega)]
              try with_reducible rfl
            refine wpI_take (i := 3) (v := ?_) rfl (by kernel_rfl) (by kernel_rfl) (by kernel_rfl) (fun _ _ _ h => h) ⟨by rfl, ?_⟩ ?_
            rotate_left
            · intro X hI; go_simp; try go_bits
              try rw [if_pos (by omega)]
              try with_reducible rfl
            refine wpI_take (i := 4) (v := ?_) rfl (by kernel_rfl) (by kernel_rfl) (by kernel_rfl) (fun _ _ _ h => h) ⟨by rfl, ?_⟩ ?_
            rotate_left
            · intro X hI; go_simp; try go_bits
              try rw [if_pos (by omega)]
              try with_reducible rfl
            refine wpI_take (i := 5) (v := ?_) rfl (by kernel_rfl) (by kernel_rfl) (by kernel_rfl) (fun _ _ _ h => h) ⟨by rfl, ?_⟩ ?_
            rotate_left
            · intro X hI; go_simp; try go_bits
              try rw [if_pos (by omega)]
              try with_reducible rfl
            refine wpI_take (i := 6) (v := ?_) rfl (by kernel_rfl) (by kernel_rfl) (by kernel_rfl) (fun _ _ _ h => h) ⟨by rfl, ?_⟩ ?_
            rotate_left
            · intro X hI; go_simp; try go_bits
              try rw [if_pos (by omega)]
              try with_reducible rfl
            refine wpI_take (i := 7) (v := ?_) rfl (by kernel_rfl) (by kernel_rfl) (by kernel_rfl) (fun _ _ _ h => h) ⟨by rfl, ?_⟩ ?_
            rotate_left
            · intro X hI; go_simp; try go_bits
              try rw [if_pos (by omega)]
              try with_reducible rfl
            refine wpI_only (i := 8) rfl (by kernel_rfl) l0 (by rfl) ?_
            intro K hK
            go_simp
            go_wp2_with (go_at_call 44; (with_reducible refine gc.mono ?_); rintro e X1 ⟨rfl, mm, hX1⟩; have hb1 : Below w4.heap.size w4 X1 := (by rw [hX1]; exact below_drewN (Below.refl _ _).drew mm); have l1 : X1.cell? ⟨b1, off1 + k, none⟩ = some (.int .i64 Xv) := (by rw [hX1]; exact l0); have hb2 := bstep hb1 (below_one X1 (.cells #[.int .i64 (Xv + Gv)] 3)); have HO3 : Hid _ := own_below HO4.out hb2; have HB3 : Hid _ := bstep HB4.out hb2; have l2 : (X1.alloc (.cells #[.int .i64 (Xv + Gv)] 3)).cell? ⟨b1, off1 + k, none⟩ = some (.int .i64 Xv) := ((below_one X1 _).cell (World.block_lt_of_cell? _ _ l1)).trans l1; clear hb1 hb2 hX1)
            refine wpI_only (i := 9) rfl (by kernel_rfl) l1 (by rfl) ?_
            intro K hK
            go_simp
            try go_bits
            try rw [if_pos (by omega)]
            refine hK _ _ ?_
            refine wpI_only (i := 10) rfl (by kernel_rfl) l1 (by rfl) ?_
            intro K hK
            go_simp
            try go_bits
            try rw [if_pos (by omega)]
            refine hK _ _ ?_
            refine wpI_only (i := 11) rfl (by kernel_rfl) l2 (by rfl) ?_
            intro K hK
            refine wp_app _ _ _ 24 rfl W8.heap.size 3 i0 (.int .i64 0) 1 8 Try.underlying24 hi hz0 hz1 hz2 rfl (by decide) _ _ _ rfl HO3.out ⟨X1.heap.size, 0, none⟩ 1 1 [.int .i64 (Xv + Gv)] rfl rfl (fun j u h => one_new X1 _ 3 j u h) (by simp [Value.oneCell']) (by unfold maxLen; omega) (by omega) HB3.out.size (by decide) ?_
            intro v5 w5 hown' hgrow hkeep
            have HB5 : Hid (Below W8.heap.size W8 w5) := grown_below HB3.out (Nat.le_refl _) HO3.out hgrow
            have l3 : w5.cell? ⟨b1, off1 + k, none⟩ = some (.int .i64 Xv) := (HB5.out.cell (p := ⟨b1, off1 + k, none⟩) (by show b1 < W8.heap.size; omega)).trans c8
            have HO5 : Hid (w5.ownsRow W8.heap.size 3 1 v5 ((2 * k + 1) + 1) (ils (bck kind n m lo hs) ((2 * k + 1) + 1))) := by show w5.ownsRow W8.heap.size 3 1 v5 ((2 * k + 1) + 1) (ils (bck kind n m lo hs) ((2 * k + 1) + 1)); rw [ils_snoc, ← e1.out]; exact hown'
            clear hown' hgrow hkeep
            refine hK _ _ ?_
            refine wpI_only (i := 12) rfl (by kernel_rfl) l3 (by rfl) ?_
            intro K hK
            go_simp
            try go_bits
            try rw [if_pos (by omega)]
            refine hK _ _ ?_
            refine wpI_done l3 (by kernel_rfl) ?_ _
            clear l0 l1 l2 l3 gc HO4 HB4
            go_wp2
            go_roundw
            case rel => exact ⟨k + 1, by go_num, by omega, by rw [show k + 1 + min (k + 1) m = 2 * k + 1 + 1 by omega]; exact HO5.out, HB5.out⟩
            case measure => simp [intOf]; omega
          · generalize hXE : (bev kind m lo hs) k = XE at c0 HO3 HB3 e0
            have HXE : Hid _ := hXE
            clear hXE
            go_wp2_with (first | (at_builtin; refine wpList_app _ rfl _ _ 24 rfl W8.heap.size 3 i0 (.int .i64 0) 1 8 Try.underlying24 hi hz0 hz1 hz2 rfl (by decide) _ _ _ rfl HO3 ⟨wr.heap.size, 0, none⟩ 1 1 [.int .i64 XE] rfl rfl (one_new _ _ _) (by simp [Value.oneCell']) (by unfold maxLen; omega) (by omega) HB3.size (by decide) ?_))
            intro v4 w4 hown4 hgrow4 hkeep4
            have HB4 : Hid (Below W8.heap.size W8 w4) := grown_below HB3 (Nat.le_refl _) HO3 hgrow4
            have HO4 : Hid (w4.ownsRow W8.heap.size 3 1 v4 (2 * k + 1) (ils (bck kind n m lo hs) (2 * k + 1))) := by show w4.ownsRow W8.heap.size 3 1 v4 (2 * k + 1) (ils (bck kind n m lo hs) (2 * k + 1)); rw [ils_snoc, ← e0.out]; exact hown4
            clear hown4 hgrow4 hkeep4 HO3 HB3 c0 e0 HXE
            go_wp2
            go_roundw
            case rel => exact ⟨k + 1, by go_num, by omega, by rw [show k + 1 + min (k + 1) m = 2 * k + 1 by omega]; exact HO4.out, HB4.out⟩
            case measure => simp [intOf]; omega
        · obtain rfl : n = k := by omega
          have R := hrel.out.1
          rw [show n + min n m = n + m by omega] at R
          have R : Hid _ := R
          have RB : Hid _ := hrel.out.2
          clear hrel
          go_wp2
          go_ret
          exact ⟨_, rfl, own_base R.out bw8, B8.out.trans (RB.out.mono bw8)⟩
end Go.Proofs.Ytbcjbighipeafaa
