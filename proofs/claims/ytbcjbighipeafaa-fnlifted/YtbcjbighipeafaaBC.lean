/- LiftBack: the program, kind 3. -/
import Derived.Test.YtbcjbighipeafaaBA
namespace Go.Proofs.Ytbcjbighipeafaa
open Go.RowKit

set_option maxRecDepth 20000 in
set_option maxHeartbeats 8000000 in
theorem iBack_3 {w : World} {v1 v2 : Value} {n m : Nat} {lo hs : Nat → Int} {M : Int} (hv1 : Il w v1 n lo) (hv2 : Il w v2 m hs) (hmn : m ≤ n) (hnm : n ≤ m + 1) (hn : n + m ≤ 1048576) (hM4 : 4 ≤ M) (hM : M ≤ 1000000000000000) (hl : Wth M n lo) (hh : Wth M m hs) :
    Calls Try.prog 27 #[.int .i64 3, v1, v2] w fun e w' => P1 w w' e (n + m) (bck 3 n m lo hs) := by
  have bn : n ≤ 1048576 := by omega
  have bm : m ≤ 1048576 := by omega
  have WL : Hid (Wth M n lo) := hl
  have WH : Hid (Wth M m hs) := hh
  have HEV : Hid (Wth (2 * M) n (bev 3 m lo hs)) := bev_with hM4 hl hh
  clear hl hh
  have V2 : Hid (Il w v2 m hs) := hv2
  obtain ⟨ao, cap, rfl, hcap, hc⟩ := hv1
  have HC : Hid (0 < n → ∃ b off, ao = some ⟨b, off, none⟩ ∧ b < w.heap.size ∧ ∀ k, k < n → w.cell? ⟨b, off + k, none⟩ = some (.int .i64 (lo k))) := hc
  obtain ⟨ho, hcp, rfl, hcap2, hc2⟩ := hv2
  have HC2 : Hid (0 < m → ∃ b off, ho = some ⟨b, off, none⟩ ∧ b < w.heap.size ∧ ∀ k, k < m → w.cell? ⟨b, off + k, none⟩ = some (.int .i64 (hs k))) := hc2
  clear hc hc2
  have hm := mkd_run w (k := n) bn
  have OE0 : Hid ((mkd w n).ownsRow w.heap.size 3 1 (.slice (some ⟨w.heap.size, 0, none⟩) n n) n (ils (fun _ => 0) n)) := mkd_own w (B := w.heap.size) bn (Nat.le_refl _)
  have BW0 : Hid (Below w.heap.size w (mkd w n)) := mkd_below w n
  have hST := rStoreF
  have hlt0 : w.heap.size < (mkd w n).heap.size := (own_lt OE0.out).2
  go_enter Try.func27, Try.ntmps27
  go_wp2_with (go_at_call 41; (with_reducible refine of_3.mono ?_); rintro e W5 ⟨be, bh, rfl, e1, e2, e3, e4, e5⟩)
  obtain ⟨bb, hbb⟩ : ∃ bb, bb = W5.heap.size := ⟨_, rfl⟩
  have r6 := Rg.new W5 (.func (.func 52) #[] #[.pointer (some ⟨be, 0, none⟩)]) (.func (.func 56) #[] #[.pointer (some ⟨bh, 0, none⟩)]) 57
  have b6 := below_one W5 (.cells #[(.func (.func 52) #[] #[.pointer (some ⟨be, 0, none⟩)]), (.func (.func 56) #[] #[.pointer (some ⟨bh, 0, none⟩)])] 57)
  have hs5 := e5.size
  have RB : Hid _ := r6
  have OE6 : Hid _ := own_below (own_below OE0.out e5) b6
  have BW6 : Hid _ := bstep (bstep BW0.out e5) b6
  have ce6 : Hid _ := (b6.cell (p := ⟨be, 0, none⟩) (World.block_lt_of_cell? _ _ e3)).trans e3
  have ch6 : Hid _ := (b6.cell (p := ⟨bh, 0, none⟩) (World.block_lt_of_cell? _ _ e4)).trans e4
  clear e3 e4 e5 r6 b6 OE0 BW0 hm
  rw [← hbb] at RB ⊢
  generalize W5.alloc (.cells #[(.func (.func 52) #[] #[.pointer (some ⟨be, 0, none⟩)]), (.func (.func 56) #[] #[.pointer (some ⟨bh, 0, none⟩)])] 57) = W6 at RB OE6 BW6 ce6 ch6 ⊢
  obtain ⟨ge, hge⟩ : ∃ ge, Hid (ge = w.heap.size) := ⟨_, rfl⟩
  have lge : ge < bb ∧ ge < be ∧ ge < bh ∧ w.heap.size ≤ ge := by have := hge.out; omega
  have OE7 : Hid (W6.ownsRow w.heap.size 3 1 (.slice (some ⟨ge, 0, none⟩) n n) n (ils (upk (bev 3 m lo hs) 0) n)) := by show W6.ownsRow w.heap.size 3 1 (.slice (some ⟨ge, 0, none⟩) n n) n (ils (upk (bev 3 m lo hs) 0) n); rw [upk_zero, hge.out]; exact OE6.out
  have ce7 : Hid (W6.cell? ⟨be, 0, none⟩ = some (.slice (some ⟨ge, 0, none⟩) n n)) := by show W6.cell? ⟨be, 0, none⟩ = some (.slice (some ⟨ge, 0, none⟩) n n); rw [hge.out]; exact ce6.out
  clear OE6 ce6 hbb hs5 hST hlt0 e1 e2
  rw [show (Value.slice (some ⟨w.heap.size, 0, none⟩) n n) = (.slice (some ⟨ge, 0, none⟩) n n) by rw [hge.out]]
  clear hge
  go_loopw [9, 22] (fun _ i W_ => ∃ k : Nat, i = .int .i64 k ∧ k ≤ n ∧ Hid (W_.ownsRow w.heap.size 3 1 (.slice (some ⟨ge, 0, none⟩) n n) n (ils (upk (bev 3 m lo hs) k) n) ∧ Only ge W6 W_)) (fun _ i _ => n - (intOf i).toNat)
  case atStart => exact ⟨0, rfl, by omega, OE7.out, Only.refl _ _⟩
  case round =>
    obtain ⟨k, rfl, hk, hrel⟩ := hrel
    obtain ⟨hrow, hon⟩ := hrel.out
    by_cases hk2 : k < n
    · obtain ⟨b, off, rfl, hlt, hcell⟩ := HC.out (by omega)
      have c : wr.cell? ⟨b, off + k, none⟩ = some (.int .i64 (lo k)) := (hon.cell (p := ⟨b, off + k, none⟩) (by show b ≠ ge; omega)).trans ((BW6.out.cell (p := ⟨b, off + k, none⟩) hlt).trans (hcell _ hk2))
      have cg : wr.cell? ⟨bb, 1, none⟩ = some (.func (.func 56) #[] #[.pointer (some ⟨bh, 0, none⟩)]) := (hon.cell (p := ⟨bb, 1, none⟩) (by show bb ≠ ge; omega)).trans RB.out.c1
      have hb : wr.drew.cell? ⟨bh, 0, none⟩ = some (.slice ho m hcp) := (hon.cell (p := ⟨bh, 0, none⟩) (by show bh ≠ ge; omega)).trans ch6.out
      have hh : Il wr.drew (.slice ho m hcp) m hs := V2.out.below (Below.only BW6.out hon.drew (by omega))
      have e1 : Hid (lo k - md 3 m hs k = (bev 3 m lo hs) k) := rfl
      have gc := m49_any (kind := 3) (M := M) (by decide) hb hh k (by omega) bm (by omega) WH.out
      have y0 := WL.out k hk2
      have y1 := md_bounds (kind := 3) hM4 WH.out k
      generalize md 3 m hs k = Gv at e1 gc y1
      generalize lo k = Xv at e1 c y0
      have l0 : wr.drew.cell? ⟨b, off + k, none⟩ = some (.int .i64 Xv) ∧ wr.drew.cell? ⟨bb, 1, none⟩ = some (.func (.func 56) #[] #[.pointer (some ⟨bh, 0, none⟩)]) := ⟨c, cg⟩
      clear hrel hcell c cg hb hh
      go_wp2
      refine wp_region_any (by kernel_rfl) ?_
      change wpAny _ _ _ _ _ _ _ (World.drew _)
      refine wpI_any (I := fun X => X.cell? ⟨b, off + k, none⟩ = some (.int .i64 Xv) ∧ X.cell? ⟨bb, 1, none⟩ = some (.func (.func 56) #[] #[.pointer (some ⟨bh, 0, none⟩)])) _ _ _ _ ?_
      refine wpI_take (i := 0) (v := ?_) rfl (by kernel_rfl) (by kernel_rfl) (by kernel_rfl) (fun _ _ _ h => h) ⟨by rfl, ?_⟩ ?_
      rotate_left
      · intro X hI; go_simp; try go_bits
        try rw [if_pos (by omega)]
        try with_reducible rfl
      refine wpI_take (i := 1) (v := ?_) rfl (by kernel_rfl) (by kernel_rfl) (by kernel_rfl) (fun _ _ _ h => h) ⟨by rfl, ?_⟩ ?_
      rotate_left
      · intro X hI; go_simp; try go_bits
        try rw [if_pos (by omega)]
        try with_reducible rfl
      refine wpI_take (i := 2) (v := ?_) rfl (by kernel_rfl) (by kernel_rfl) (by kernel_rfl) (fun _ _ _ h => h) ⟨by rfl, ?_⟩ ?_
      rotate_left
      · intro X hI; go_simp; try go_bits
        try rw [if_pos (by omega)]
        try with_reducible rfl
      refine wpI_take (i := 3) (v := ?_) rfl (by kernel_rfl) (by kernel_rfl) (by kernel_rfl) (fun _ _ _ h => h) ⟨by rfl, ?_⟩ ?_
      rotate_left
      · intro X hI; go_simp; try go_bits
        try rw [if_pos (by omega)]
        try with_reducible rfl
      refine wpI_take (i := 4) (v := ?_) rfl (by kernel_rfl) (by kernel_rfl) (by kernel_rfl) (fun _ _ _ h => h) ⟨by rfl, ?_⟩ ?_
      rotate_left
      · intro X hI; go_simp; try go_bits
        try rw [if_pos (by omega)]
        try with_reducible rfl
      refine wpI_take (i := 5) (v := ?_) rfl (by kernel_rfl) (by kernel_rfl) (by kernel_rfl) (fun _ _ _ h => h) ⟨by rfl, ?_⟩ ?_
      rotate_left
      · intro X hI; obtain ⟨q1, q2⟩ := hI; go_simp; try go_bits
        try rw [if_pos (by omega)]
        try with_reducible rfl
      refine wpI_take (i := 6) (v := ?_) rfl (by kernel_rfl) (by kernel_rfl) (by kernel_rfl) (fun _ _ _ h => h) ⟨by rfl, ?_⟩ ?_
      rotate_left
      · intro X hI; go_simp; try go_bits
        try rw [if_pos (by omega)]
        try with_reducible rfl
      refine wpI_take (i := 7) (v := ?_) rfl (by kernel_rfl) (by kernel_rfl) (by kernel_rfl) (fun _ _ _ h => h) ⟨by rfl, ?_⟩ ?_
      rotate_left
      · intro X hI; obtain ⟨q1, q2⟩ := hI; go_simp; try go_bits
        try rw [if_pos (by omega)]
        try with_reducible rfl
      refine wpI_take (i := 8) (v := ?_) rfl (by kernel_rfl) (by kernel_rfl) (by kernel_rfl) (fun _ _ _ h => h) ⟨by rfl, ?_⟩ ?_
      rotate_left
      · intro X hI; go_simp; try go_bits
        try rw [if_pos (by omega)]
        try with_reducible rfl
      refine wpI_only (i := 9) rfl (by kernel_rfl) l0 (by rfl) ?_
      intro K hK
      go_simp
      go_wp2_with (go_at_call 56; (with_reducible refine gc.mono ?_); rintro e X1 ⟨rfl, mm, hX1⟩; have hon1 : Only ge W6 X1 := (by rw [hX1]; exact hon.drew.drewN mm); have hrow1 : X1.ownsRow w.heap.size 3 1 (.slice (some ⟨ge, 0, none⟩) n n) n (ils (upk (bev 3 m lo hs) k) n) := (by rw [hX1]; exact hrow); have l1 : X1.cell? ⟨b, off + k, none⟩ = some (.int .i64 Xv) ∧ X1.cell? ⟨bb, 1, none⟩ = some (.func (.func 56) #[] #[.pointer (some ⟨bh, 0, none⟩)]) := (by rw [hX1]; exact l0); have hfz := hrow1.frozenAt k; have hce := hrow1.cellAt k (by omega); rw [ils_get hk2] at hce; have hst := (hrow1.stored k (.int .i64 (Xv - Gv))).1; rw [ils_put, upk_putv e1.out] at hst; have OP : Hid _ := hst; have ON : Hid (Only ge W6 (X1.setCell ⟨ge, k, none⟩ (.int .i64 (Xv - Gv)))) := hon1.put k _; have l2 : (X1.setCell ⟨ge, k, none⟩ (.int .i64 (Xv - Gv))).cell? ⟨b, off + k, none⟩ = some (.int .i64 Xv) ∧ (X1.setCell ⟨ge, k, none⟩ (.int .i64 (Xv - Gv))).cell? ⟨bb, 1, none⟩ = some (.func (.func 56) #[] #[.pointer (some ⟨bh, 0, none⟩)]) := ⟨(((Only.refl ge X1).put k _).cell (p := ⟨b, off + k, none⟩) (by show b ≠ ge; omega)).trans l1.1, (((Only.refl ge X1).put k _).cell (p := ⟨bb, 1, none⟩) (by show bb ≠ ge; omega)).trans l1.2⟩; clear hst hrow1 hon1 hX1)
      refine wpI_only (i := 10) rfl (by kernel_rfl) l1 (by rfl) ?_
      intro K hK
      go_simp
      try go_bits
      try rw [if_pos (by omega)]
      refine hK _ _ ?_
      refine wpI_only (i := 11) rfl (by kernel_rfl) l1 (by rfl) ?_
      intro K hK
      go_simp
      try go_bits
      try rw [if_pos (by omega)]
      refine hK _ _ ?_
      refine wpI_only (i := 12) rfl (by kernel_rfl) l1 (by rfl) ?_
      intro K hK
      go_simp
      try go_bits
      try rw [if_pos (by omega)]
      refine hK _ _ ?_
      refine wpI_done l2 (by kernel_rfl) ?_ _
      clear l0 l1 l2 gc hrow hon
      go_wp2
      go_roundw
      case rel => exact ⟨k + 1, by go_num, by omega, OP.out, ON.out⟩
      case measure => simp [intOf]; omega
    · obtain rfl : n = k := by omega
      rw [upk_full] at hrow
      have OE8 : Hid (wr.ownsRow w.heap.size 3 1 (.slice (some ⟨ge, 0, none⟩) n n) n (ils (bev 3 m lo hs) n)) := hrow
      have BW8 : Hid (Below w.heap.size w wr) := Below.only BW6.out hon (by omega)
      have RB8 : Hid _ := Rg.only RB.out hon (show bb ≠ ge by omega)
      have ce8 : Hid _ := (hon.cell (p := ⟨be, 0, none⟩) (by show be ≠ ge; omega)).trans ce7.out
      clear hrow hon hrel RB BW6 ce7 ch6 OE7
      obtain ⟨s, hs0⟩ : ∃ s, Hid (s = n + m) := ⟨_, rfl⟩
      have bs : s ≤ 1048576 ∧ (n : Int) + (m : Int) = (s : Int) := by have := hs0.out; omega
      have ens : (n : Int) + (m : Int) = (s : Int) := bs.2
      have hm := mkd_run wr (k := s) bs.1
      have OX : Hid ((mkd wr s).ownsRow w.heap.size 3 1 (.slice (some ⟨wr.heap.size, 0, none⟩) s s) s (ils (ev2 (bev 3 m lo hs) 0) s)) := by show (mkd wr s).ownsRow w.heap.size 3 1 (.slice (some ⟨wr.heap.size, 0, none⟩) s s) s (ils (ev2 (bev 3 m lo hs) 0) s); rw [ev2_zero]; exact mkd_own wr bs.1 BW8.out.size
      have bx := mkd_below wr s
      have OE9 : Hid (( mkd wr s).ownsRow w.heap.size 3 1 (.slice (some ⟨ge, 0, none⟩) n n) n (ils (bev 3 m lo hs) n)) := own_below OE8.out bx
      have BW9 : Hid (Below w.heap.size w (mkd wr s)) := bstep BW8.out bx
      have RB9 : Hid (Rg (mkd wr s) bb (.func (.func 52) #[] #[.pointer (some ⟨be, 0, none⟩)]) (.func (.func 56) #[] #[.pointer (some ⟨bh, 0, none⟩)])) := RB8.out.call bx
      have ce9 : Hid ((mkd wr s).cell? ⟨be, 0, none⟩ = some (.slice (some ⟨ge, 0, none⟩) n n)) := (bx.cell (p := ⟨be, 0, none⟩) (World.block_lt_of_cell? _ _ ce8.out)).trans ce8.out
      have lx : ge < wr.heap.size ∧ bb < wr.heap.size ∧ be < wr.heap.size ∧ w.heap.size ≤ wr.heap.size := ⟨(own_lt OE8.out).2, RB8.out.lt, World.block_lt_of_cell? _ _ ce8.out, BW8.out.size⟩
      clear OE8 BW8 RB8 ce8 bx
      go_wp2
      clear hm ens
      generalize wr.heap.size = gx at OX lx ⊢
      generalize mkd wr s = W7 at OX OE9 BW9 RB9 ce9 ⊢
      have es := bs.2
      clear bs
      have es2 : Hid (s = n + m) := hs0
      go_loopw [11, 46] (fun _ i W_ => ∃ k : Nat, i = .int .i64 k ∧ k ≤ n ∧ Hid (W_.ownsRow w.heap.size 3 1 (.slice (some ⟨gx, 0, none⟩) s s) s (ils (ev2 (bev 3 m lo hs) k) s) ∧ Only gx W7 W_)) (fun _ i _ => n - (intOf i).toNat)
      case atStart => exact ⟨0, rfl, by omega, OX.out, Only.refl _ _⟩
      case round =>
        obtain ⟨k, rfl, hk, hrel⟩ := hrel
        obtain ⟨hrow, hon⟩ := hrel.out
        by_cases hk2 : k < n
        · have hk3 : 2 * k < s := by have := es2.out; omega
          have he := own_ne OE9.out hon (show ge ≠ gx by omega)
          have c := he.cellAt k (by omega)
          rw [ils_get hk2] at c
          have hfz := hrow.frozenAt (2 * k)
          have hce := hrow.cellAt (2 * k) (by omega)
          rw [ils_get hk3] at hce
          have hst := (hrow.stored (2 * k) (.int .i64 ((bev 3 m lo hs) k))).1
          rw [ils_put, ev2_put rfl] at hst
          have OP : Hid _ := hst
          have ON : Hid _ := hon.put (2 * k) (.int .i64 ((bev 3 m lo hs) k))
          clear hst hrow hon hrel he
          generalize (bev 3 m lo hs) k = Xv at c OP ON
          go_wp2
          go_roundw
          case rel => exact ⟨k + 1, by go_num, by omega, OP.out, ON.out⟩
          case measure => simp [intOf]; omega
        · obtain rfl : n = k := by omega
          have hrow2 := hrow
          rw [es2.out, ev2_full (bev 3 m lo hs) (fun i => hs i + gs 3 n (bev 3 m lo hs) i) hmn, ← es2.out] at hrow2
          have OX8 : Hid (wr.ownsRow w.heap.size 3 1 (.slice (some ⟨gx, 0, none⟩) s s) s (ils (od3 (bev 3 m lo hs) (fun i => hs i + gs 3 n (bev 3 m lo hs) i) 0) s)) := hrow2
          have OE8 : Hid _ := own_ne OE9.out hon (show ge ≠ gx by omega)
          have BW8 : Hid (Below w.heap.size w wr) := Below.only BW9.out hon (by omega)
          have RB8 : Hid _ := Rg.only RB9.out hon (show bb ≠ gx by omega)
          have ce8 : Hid _ := (hon.cell (p := ⟨be, 0, none⟩) (by show be ≠ gx; omega)).trans ce9.out
          clear hrow hrow2 hon hrel RB9 BW9 ce9 OE9 OX
          go_wp2
          generalize wr = W8 at OX8 OE8 BW8 RB8 ce8 ⊢
          go_loopw [12, 60] (fun _ i W_ => ∃ k : Nat, i = .int .i64 k ∧ k ≤ m ∧ Hid (W_.ownsRow w.heap.size 3 1 (.slice (some ⟨gx, 0, none⟩) s s) s (ils (od3 (bev 3 m lo hs) (fun i => hs i + gs 3 n (bev 3 m lo hs) i) k) s) ∧ Only gx W8 W_)) (fun _ i _ => m - (intOf i).toNat)
          case atStart => exact ⟨0, rfl, by omega, OX8.out, Only.refl _ _⟩
          case round =>
            obtain ⟨k, rfl, hk, hrel⟩ := hrel
            obtain ⟨hrow, hon⟩ := hrel.out
            by_cases hk2 : k < m
            · have hk3 : k < n := by omega
              have hk4 : 2 * k + 1 < s := by have := es2.out; omega
              obtain ⟨b, off, rfl, hlt, hcell⟩ := HC2.out (by omega)
              have c : wr.cell? ⟨b, off + k, none⟩ = some (.int .i64 (hs k)) := (hon.cell (p := ⟨b, off + k, none⟩) (by show b ≠ gx; omega)).trans ((BW8.out.cell (p := ⟨b, off + k, none⟩) hlt).trans (hcell _ hk2))
              have cg : wr.cell? ⟨bb, 0, none⟩ = some (.func (.func 52) #[] #[.pointer (some ⟨be, 0, none⟩)]) := (hon.cell (p := ⟨bb, 0, none⟩) (by show bb ≠ gx; omega)).trans RB8.out.c0
              have hb : wr.drew.cell? ⟨be, 0, none⟩ = some (.slice (some ⟨ge, 0, none⟩) n n) := (hon.cell (p := ⟨be, 0, none⟩) (by show be ≠ gx; omega)).trans ce8.out
              have he : wr.drew.ownsRow w.heap.size 3 1 (.slice (some ⟨ge, 0, none⟩) n n) n (ils (bev 3 m lo hs) n) := own_ne OE8.out hon.drew (show ge ≠ gx by omega)
              have e1 : Hid (hs k + gs 3 n (bev 3 m lo hs) k = (fun i => hs i + gs 3 n (bev 3 m lo hs) i) k) := rfl
              have gc := g47_any (M := 2 * M) hb (il_of_own he) k hk3 bn (by omega) HEV.out
              have y0 := WH.out k hk2
              have y1 := gs_bounds (kind := 3) (by omega) HEV.out hk3
              generalize gs 3 n (bev 3 m lo hs) k = Gv at e1 gc y1
              generalize hs k = Xv at e1 c y0
              have l0 : wr.drew.cell? ⟨b, off + k, none⟩ = some (.int .i64 Xv) ∧ wr.drew.cell? ⟨bb, 0, none⟩ = some (.func (.func 52) #[] #[.pointer (some ⟨be, 0, none⟩)]) := ⟨c, cg⟩
              clear hrel hcell c cg hb he
              go_wp2
              refine wp_region_any (by kernel_rfl) ?_
              change wpAny _ _ _ _ _ _ _ (World.drew _)
              refine wpI_any (I := fun X => X.cell? ⟨b, off + k, none⟩ = some (.int .i64 Xv) ∧ X.cell? ⟨bb, 0, none⟩ = some (.func (.func 52) #[] #[.pointer (some ⟨be, 0, none⟩)])) _ _ _ _ ?_
              refine wpI_take (i := 0) (v := ?_) rfl (by kernel_rfl) (by kernel_rfl) (by kernel_rfl) (fun _ _ _ h => h) ⟨by rfl, ?_⟩ ?_
              rotate_left
              · intro X hI; go_simp; try go_bits
                try rw [if_pos (by omega)]
                try with_reducible rfl
              refine wpI_take (i := 1) (v := ?_) rfl (by kernel_rfl) (by kernel_rfl) (by kernel_rfl) (fun _ _ _ h => h) ⟨by rfl, ?_⟩ ?_
              rotate_left
              · intro X hI; go_simp; try go_bits
                try rw [if_pos (by omega)]
                try with_reducible rfl
              refine wpI_take (i := 2) (v := ?_) rfl (by kernel_rfl) (by kernel_rfl) (by kernel_rfl) (fun _ _ _ h => h) ⟨by rfl, ?_⟩ ?_
              rotate_left
              · intro X hI; go_simp; try go_bits
                try rw [if_pos (by omega)]
                try with_reducible rfl
              refine wpI_take (i := 3) (v := ?_) rfl (by kernel_rfl) (by kernel_rfl) (by kernel_rfl) (fun _ _ _ h => h) ⟨by rfl, ?_⟩ ?_
              rotate_left
              · intro X hI; go_simp; try go_bits
                try rw [if_pos (by omega)]
                try with_reducible rfl
              refine wpI_take (i := 4) (v := ?_) rfl (by kernel_rfl) (by kernel_rfl) (by kernel_rfl) (fun _ _ _ h => h) ⟨by rfl, ?_⟩ ?_
              rotate_left
              · intro X hI; go_simp; try go_bits
                try rw [if_pos (by omega)]
                try with_reducible rfl
              refine wpI_take (i := 5) (v := ?_) rfl (by kernel_rfl) (by kernel_rfl) (by kernel_rfl) (fun _ _ _ h => h) ⟨by rfl, ?_⟩ ?_
              rotate_left
              · intro X hI; go_simp; try go_bits
                try rw [if_pos (by omega)]
                try with_reducible rfl
              refine wpI_take (i := 6) (v := ?_) rfl (by kernel_rfl) (by kernel_rfl) (by kernel_rfl) (fun _ _ _ h => h) ⟨by rfl, ?_⟩ ?_
              rotate_left
              · intro X hI; go_simp; try go_bits
                try rw [if_pos (by omega)]
                try with_reducible rfl
              refine wpI_take (i := 7) (v := ?_) rfl (by kernel_rfl) (by kernel_rfl) (by kernel_rfl) (fun _ _ _ h => h) ⟨by rfl, ?_⟩ ?_
              rotate_left
              · intro X hI; obtain ⟨q1, q2⟩ := hI; go_simp; try go_bits
                try rw [if_pos (by omega)]
                try with_reducible rfl
              refine wpI_take (i := 8) (v := ?_) rfl (by kernel_rfl) (by kernel_rfl) (by kernel_rfl) (fun _ _ _ h => h) ⟨by rfl, ?_⟩ ?_
              rotate_left
              · intro X hI; go_simp; try go_bits
                try rw [if_pos (by omega)]
                try with_reducible rfl
              refine wpI_take (i := 9) (v := ?_) rfl (by kernel_rfl) (by kernel_rfl) (by kernel_rfl) (fun _ _ _ h => h) ⟨by rfl, ?_⟩ ?_
              rotate_left
              · intro X hI; obtain ⟨q1, q2⟩ := hI; go_simp; try go_bits
                try rw [if_pos (by omega)]
                try with_reducible rfl
              refine wpI_take (i := 10) (v := ?_) rfl (by kernel_rfl) (by kernel_rfl) (by kernel_rfl) (fun _ _ _ h => h) ⟨by rfl, ?_⟩ ?_
              rotate_left
              · intro X hI; go_simp; try go_bits
                try rw [if_pos (by omega)]
                try with_reducible rfl
              refine wpI_only (i := 11) rfl (by kernel_rfl) l0 (by rfl) ?_
              intro K hK
              go_simp
              go_wp2_with (go_at_call 52; (with_reducible refine gc.mono ?_); rintro e X1 ⟨rfl, mm, hX1⟩; have hon1 : Only gx W8 X1 := (by rw [hX1]; exact hon.drew.drewN mm); have hrow1 : X1.ownsRow w.heap.size 3 1 (.slice (some ⟨gx, 0, none⟩) s s) s (ils (od3 (bev 3 m lo hs) (fun i => hs i + gs 3 n (bev 3 m lo hs) i) k) s) := (by rw [hX1]; exact hrow); have l1 : X1.cell? ⟨b, off + k, none⟩ = some (.int .i64 Xv) ∧ X1.cell? ⟨bb, 0, none⟩ = some (.func (.func 52) #[] #[.pointer (some ⟨be, 0, none⟩)]) := (by rw [hX1]; exact l0); have hfz := hrow1.frozenAt (2 * k + 1); have hce := hrow1.cellAt (2 * k + 1) (by omega); rw [ils_get (by omega)] at hce; have hst := (hrow1.stored (2 * k + 1) (.int .i64 (Xv + Gv))).1; rw [ils_put, od3_put e1.out] at hst; have OP : Hid _ := hst; have ON : Hid (Only gx W8 (X1.setCell ⟨gx, 2 * k + 1, none⟩ (.int .i64 (Xv + Gv)))) := hon1.put (2 * k + 1) _; have l2 : (X1.setCell ⟨gx, 2 * k + 1, none⟩ (.int .i64 (Xv + Gv))).cell? ⟨b, off + k, none⟩ = some (.int .i64 Xv) ∧ (X1.setCell ⟨gx, 2 * k + 1, none⟩ (.int .i64 (Xv + Gv))).cell? ⟨bb, 0, none⟩ = some (.func (.func 52) #[] #[.pointer (some ⟨be, 0, none⟩)]) := ⟨(((Only.refl gx X1).put (2 * k + 1) _).cell (p := ⟨b, off + k, none⟩) (by show b ≠ gx; omega)).trans l1.1, (((Only.refl gx X1).put (2 * k + 1) _).cell (p := ⟨bb, 0, none⟩) (by show bb ≠ gx; omega)).trans l1.2⟩; clear hst hrow1 hon1 hX1)
              refine wpI_only (i := 12) rfl (by kernel_rfl) l1 (by rfl) ?_
              intro K hK
              go_simp
              try go_bits
              try rw [if_pos (by omega)]
              refine hK _ _ ?_
              refine wpI_only (i := 13) rfl (by kernel_rfl) l1 (by rfl) ?_
              intro K hK
              go_simp
              try go_bits
              try rw [if_pos (by omega)]
              refine hK _ _ ?_
              refine wpI_only (i := 14) rfl (by kernel_rfl) l1 (by rfl) ?_
              intro K hK
              go_simp
              try go_bits
              try rw [if_pos (by omega)]
              refine hK _ _ ?_
              refine wpI_done l2 (by kernel_rfl) ?_ _
              clear l0 l1 l2 gc hrow hon
              go_wp2
              go_roundw
              case rel => exact ⟨k + 1, by go_num, by omega, OP.out, ON.out⟩
              case measure => simp [intOf]; omega
            · obtain rfl : m = k := by omega
              rw [es2.out, od3_full hnm] at hrow
              have OX9 : Hid (wr.ownsRow w.heap.size 3 1 (.slice (some ⟨gx, 0, none⟩) (n + m) (n + m)) (n + m) (ils (bck 3 n m lo hs) (n + m))) := hrow
              have BW9 : Hid (Below w.heap.size w wr) := Below.only BW8.out hon (by omega)
              clear hrow hon hrel OX8 OE8 BW8 RB8 ce8
              go_wp2
              go_ret
              rw [es2.out]
              exact ⟨_, rfl, OX9.out, BW9.out⟩
end Go.Proofs.Ytbcjbighipeafaa
