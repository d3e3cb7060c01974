/- LiftOnce: the program, kind 2. -/
import Derived.Test.YtbcjbighipeafaaLG
namespace Go.Proofs.Ytbcjbighipeafaa
open Go.RowKit

set_option maxRecDepth 20000 in
set_option maxHeartbeats 8000000 in
theorem iOnce_2 {w : World} {v : Value} {n : Nat} {xs : Nat → Int} {M : Int} (hv : Il w v n xs) (hn : n ≤ 1048576) (hM4 : 4 ≤ M) (hM : M ≤ 1000000000000000) (hx : Wth M n xs) :
    Calls Try.prog 24 #[.int .i64 2, v] w fun e w' => P2 w w' e ((n + 1) / 2) (n / 2) (loL 2 n xs) (hiL 2 n xs) := by
  obtain ⟨p, hp⟩ : ∃ p, Hid (p = (n + 1) / 2) := ⟨_, rfl⟩
  obtain ⟨q, hq0⟩ : ∃ q, Hid (q = n / 2) := ⟨_, rfl⟩
  have bp : p ≤ 1048576 := by have := hp.out; omega
  have bq : q ≤ 1048576 := by have := hq0.out; omega
  have hq : (n : Int) / 2 = (q : Int) := by have := hq0.out; omega
  have HX : Hid (Wth M n xs) := hx
  have HEV : Hid (Wth M p (evs xs)) := by have := evs_with hx; rw [← hp.out] at this; exact this
  have HIB : Hid (Wth (3 * M) q (hiL 2 n xs)) := by have := hi_with (kind := 2) hM4 hx; rw [← hq0.out] at this; exact this
  clear hx
  obtain ⟨ao, cap, rfl, hcap, hc⟩ := hv
  have HC : Hid (0 < n → ∃ b off, ao = some ⟨b, off, none⟩ ∧ b < w.heap.size ∧ ∀ k, k < n → w.cell? ⟨b, off + k, none⟩ = some (.int .i64 (xs k))) := hc
  clear hc
  have fr := reg24 (w := w) (kind := 2) (ao := ao) (cap := cap) hn hp hq
  unfold ops24 at fr
  go_enter Try.func24, Try.ntmps24
  go_wp2
  refine Code.wp_mono ?_ fr
  rintro e a W ⟨rfl, gl, gh, rfl, S⟩
  clear fr hq
  have HP : Hid ((n + 1) / 2 = p ∧ n / 2 = q) := ⟨hp.out.symm, hq0.out.symm⟩
  clear hp hq0
  have hm := mkd_run W (k := p) bp
  have OE := mkd_own W (B := w.heap.size) bp S.bel.size
  have BE := mkd_below W p
  have OL : Hid _ := own_below (S.lo gl rfl) BE
  have OH : Hid _ := own_below (S.hi gh rfl) BE
  have lL := own_lt (S.lo gl rfl)
  have lH := own_lt (S.hi gh rfl)
  have nLH := S.ap gl gh rfl rfl
  have BW : Hid (Below w.heap.size w (mkd W p)) := bstep S.bel BE
  clear S
  go_wp2
  clear hm BE
  rw [← upk_zero (evs xs)] at OE
  have OE : Hid ((mkd W p).ownsRow w.heap.size 3 1 (.slice (some ⟨W.heap.size, 0, none⟩) p p) p (ils (upk (evs xs) 0) p)) := OE
  generalize W.heap.size = ge at OE lL lH ⊢
  generalize mkd W p = W3 at OE OL OH BW ⊢
  go_loopw [9, 26] (fun _ i wr => ∃ k : Nat, i = .int .i64 k ∧ k ≤ p ∧ Hid (wr.ownsRow w.heap.size 3 1 (.slice (some ⟨ge, 0, none⟩) p p) p (ils (upk (evs xs) k) p) ∧ Only ge W3 wr)) (fun _ i _ => p - (intOf i).toNat)
  case atStart => exact ⟨0, rfl, by omega, OE.out, Only.refl _ _⟩
  case round =>
    obtain ⟨k, rfl, hk, hrel⟩ := hrel
    obtain ⟨hrow, hon⟩ := hrel.out
    by_cases hk2 : k < p
    · have hk3 : 2 * k < n := by have := HP.out.1; omega
      obtain ⟨b, off, rfl, hlt, hcell⟩ := HC.out (by omega)
      have c : wr.cell? ⟨b, off + 2 * k, none⟩ = some (.int .i64 (xs (2 * k))) := (hon.cell (p := ⟨b, off + 2 * k, none⟩) (by show b ≠ ge; omega)).trans ((BW.out.cell (p := ⟨b, off + 2 * k, none⟩) hlt).trans (hcell _ hk3))
      have hfz := hrow.frozenAt k
      have hce := hrow.cellAt k (by omega)
      rw [ils_get hk2] at hce
      have hst := (hrow.stored k (.int .i64 (xs (2 * k)))).1
      rw [ils_put, show xs (2 * k) = evs xs k from rfl, upk_put] at hst
      have OP : Hid _ := hst
      have ON : Hid _ := hon.put k (.int .i64 (xs (2 * k)))
      clear hst hrow hon hrel hcell
      go_wp2
      go_roundw
      case rel => exact ⟨k + 1, by go_num, by omega, OP.out, ON.out⟩
      case measure => simp [intOf]; omega
    · obtain rfl : p = k := by omega
      rw [upk_full] at hrow
      have OE2 : Hid (wr.ownsRow w.heap.size 3 1 (.slice (some ⟨ge, 0, none⟩) p p) p (ils (evs xs) p)) := hrow
      have OL2 : Hid _ := own_ne OL.out hon (show gl ≠ ge by omega)
      have OH2 : Hid _ := own_ne OH.out hon (show gh ≠ ge by omega)
      have BW2 : Hid (Below w.heap.size w wr) := Below.only BW.out hon (by omega)
      have hgs : ge < wr.heap.size := (own_lt OE2.out).2
      clear hrow hon hrel OL OH OE BW hk hk2
      have hST := rStoreF
      go_wp2_with (go_at_call 41; (with_reducible refine of_2.mono ?_); rintro e W5 ⟨be, bh, rfl, e1, e2, e3, e4, e5⟩)
      obtain ⟨bb, hbb⟩ : ∃ bb, bb = W5.heap.size := ⟨_, rfl⟩
      have r6 := Rg.new W5 (.func (.func 49) #[] #[.pointer (some ⟨be, 0, none⟩)]) (.func (.func 56) #[] #[.pointer (some ⟨bh, 0, none⟩)]) 57
      have b6 := below_one W5 (.cells #[(.func (.func 49) #[] #[.pointer (some ⟨be, 0, none⟩)]), (.func (.func 56) #[] #[.pointer (some ⟨bh, 0, none⟩)])] 57)
      have hs5 := e5.size
      have RB : Hid _ := r6
      have OE6 : Hid _ := own_below (own_below OE2.out e5) b6
      have OL6 : Hid _ := own_below (own_below OL2.out e5) b6
      have OH6 : Hid _ := own_below (own_below OH2.out e5) b6
      have BW6 : Hid _ := bstep (bstep BW2.out e5) b6
      have ce6 : Hid _ := (b6.cell (p := ⟨be, 0, none⟩) (World.block_lt_of_cell? _ _ e3)).trans e3
      have ch6 : Hid _ := (b6.cell (p := ⟨bh, 0, none⟩) (World.block_lt_of_cell? _ _ e4)).trans e4
      clear e3 e4 e5 r6 b6 OE2 OL2 OH2 BW2
      rw [← hbb] at RB ⊢
      generalize W5.alloc (.cells #[(.func (.func 49) #[] #[.pointer (some ⟨be, 0, none⟩)]), (.func (.func 56) #[] #[.pointer (some ⟨bh, 0, none⟩)])] 57) = W6 at RB OE6 OL6 OH6 BW6 ce6 ch6 ⊢
      have lbb : ge < bb ∧ gl < bb ∧ gh < bb ∧ w.heap.size < bb := by omega
      have lbe : ge < be ∧ ge < bh := by omega
      clear hST hbb hs5 hgs e1 e2
      have OH7 : Hid (W6.ownsRow w.heap.size 3 1 (.slice (some ⟨gh, 0, none⟩) q q) q (ils (upk (hiL 2 n xs) 0) q)) := by show W6.ownsRow w.heap.size 3 1 (.slice (some ⟨gh, 0, none⟩) q q) q (ils (upk (hiL 2 n xs) 0) q); rw [upk_zero]; exact OH6.out
      clear OH6
      go_loopw [11, 44] (fun _ i W_ => ∃ k : Nat, i = .int .i64 k ∧ k ≤ q ∧ Hid (W_.ownsRow w.heap.size 3 1 (.slice (some ⟨gh, 0, none⟩) q q) q (ils (upk (hiL 2 n xs) k) q) ∧ Only gh W6 W_)) (fun _ i _ => q - (intOf i).toNat)
      case atStart => exact ⟨0, rfl, by omega, OH7.out, Only.refl _ _⟩
      case round =>
        obtain ⟨k, rfl, hk, hrel⟩ := hrel
        obtain ⟨hrow, hon⟩ := hrel.out
        by_cases hk2 : k < q
        · have hk3 : 2 * k + 1 < n ∧ k < p := by have := HP.out; omega
          obtain ⟨b, off, rfl, hlt, hcell⟩ := HC.out (by omega)
          have c : wr.cell? ⟨b, off + (2 * k + 1), none⟩ = some (.int .i64 (xs (2 * k + 1))) := (hon.cell (p := ⟨b, off + (2 * k + 1), none⟩) (by show b ≠ gh; omega)).trans ((BW6.out.cell (p := ⟨b, off + (2 * k + 1), none⟩) hlt).trans (hcell _ hk3.1))
          have cg : wr.cell? ⟨bb, 0, none⟩ = some (.func (.func 49) #[] #[.pointer (some ⟨be, 0, none⟩)]) := (hon.cell (p := ⟨bb, 0, none⟩) (by show bb ≠ gh; omega)).trans RB.out.c0
          have hb : wr.drew.cell? ⟨be, 0, none⟩ = some (.slice (some ⟨ge, 0, none⟩) p p) := (hon.cell (p := ⟨be, 0, none⟩) (by show be ≠ gh; omega)).trans ce6.out
          have he : wr.drew.ownsRow w.heap.size 3 1 (.slice (some ⟨ge, 0, none⟩) p p) p (ils (evs xs) p) := own_ne OE6.out hon.drew (show ge ≠ gh by omega)
          have e1 : Hid (xs (2 * k + 1) - gs 2 p (evs xs) k = hiL 2 n xs k) := by show xs (2 * k + 1) - gs 2 p (evs xs) k = hiL 2 n xs k; unfold hiL; rw [HP.out.1]
          have gc := g44_any (M := M) hb (il_of_own he) k hk3.2 bp (by omega) HEV.out
          have y0 := HX.out (2 * k + 1) hk3.1
          have y1 := gs_bounds (kind := 2) hM4 HEV.out hk3.2
          generalize gs 2 p (evs xs) k = Gv at e1 gc y1
          generalize xs (2 * k + 1) = Xv at e1 c y0
          have l0 : wr.drew.cell? ⟨b, off + (2 * k + 1), none⟩ = some (.int .i64 Xv) ∧ wr.drew.cell? ⟨bb, 0, none⟩ = some (.func (.func 49) #[] #[.pointer (some ⟨be, 0, none⟩)]) := ⟨c, cg⟩
          clear hrel hcell c cg hb he
          go_wp2
          refine wp_region_any (by kernel_rfl) ?_
          change wpAny _ _ _ _ _ _ _ (World.drew _)
          refine wpI_any (I := fun X => X.cell? ⟨b, off + (2 * k + 1), none⟩ = some (.int .i64 Xv) ∧ X.cell? ⟨bb, 0, none⟩ = some (.func (.func 49) #[] #[.pointer (some ⟨be, 0, none⟩)])) _ _ _ _ ?_
          refine wpI_take (i := 0) (v := ?_) rfl (by kernel_rfl) (by kernel_rfl) (by kernel_rfl) (fun _ _ _ h => h) ⟨by rfl, ?_⟩ ?_
          rotate_left
          · intro X hI; go_simp; try go_bits
            try rw [if_pos (by omega)]
            try with_reducible rfl
          refine wpI_take (i := 1) (v := ?_) rfl (by kernel_rfl) (by kernel_rfl) (by kernel_rfl) (fun _ _ _ h => h) ⟨by rfl, ?_⟩ ?_
          rotate_left
          · intro X hI; go_simp; try go_bits
            try rw [if_pos (by omega)]
            try with_reducible rfl
          refine wpI_take (i := 2) (v := ?_) rfl (by kernel_rfl) (by kernel_rfl) (by kernel_rfl) (fun _ _ _ h => h) ⟨by rfl, ?_⟩ ?_
          rotate_left
          · intro X hI; go_simp; try go_bits
            try rw [if_pos (by omega)]
            try with_reducible rfl
          refine wpI_take (i := 3) (v := ?_) rfl (by kernel_rfl) (by kernel_rfl) (by kernel_rfl) (fun _ _ _ h => h) ⟨by rfl, ?_⟩ ?_
          rotate_left
          · intro X hI; go_simp; try go_bits
            try rw [if_pos (by omega)]
            try with_reducible rfl
          refine wpI_take (i := 4) (v := ?_) rfl (by kernel_rfl) (by kernel_rfl) (by kernel_rfl) (fun _ _ _ h => h) ⟨by rfl, ?_⟩ ?_
          rotate_left
          · intro X hI; go_simp; try go_bits
            try rw [if_pos (by omega)]
            try with_reducible rfl
          refine wpI_take (i := 5) (v := ?_) rfl (by kernel_rfl) (by kernel_rfl) (by kernel_rfl) (fun _ _ _ h => h) ⟨by rfl, ?_⟩ ?_
          rotate_left
          · intro X hI; go_simp; try go_bits
            try rw [if_pos (by omega)]
            try with_reducible rfl
          refine wpI_take (i := 6) (v := ?_) rfl (by kernel_rfl) (by kernel_rfl) (by kernel_rfl) (fun _ _ _ h => h) ⟨by rfl, ?_⟩ ?_
          rotate_left
          · intro X hI; go_simp; try go_bits
            try rw [if_pos (by omega)]
            try with_reducible rfl
          refine wpI_take (i := 7) (v := ?_) rfl (by kernel_rfl) (by kernel_rfl) (by kernel_rfl) (fun _ _ _ h => h) ⟨by rfl, ?_⟩ ?_
          rotate_left
          · intro X hI; obtain ⟨q1, q2⟩ := hI; go_simp; try go_bits
            try rw [if_pos (by omega)]
            try with_reducible rfl
          refine wpI_take (i := 8) (v := ?_) rfl (by kernel_rfl) (by kernel_rfl) (by kernel_rfl) (fun _ _ _ h => h) ⟨by rfl, ?_⟩ ?_
          rotate_left
          · intro X hI; go_simp; try go_bits
            try rw [if_pos (by omega)]
            try with_reducible rfl
          refine wpI_take (i := 9) (v := ?_) rfl (by kernel_rfl) (by kernel_rfl) (by kernel_rfl) (fun _ _ _ h => h) ⟨by rfl, ?_⟩ ?_
          rotate_left
          · intro X hI; obtain ⟨q1, q2⟩ := hI; go_simp; try go_bits
            try rw [if_pos (by omega)]
            try with_reducible rfl
          refine wpI_take (i := 10) (v := ?_) rfl (by kernel_rfl) (by kernel_rfl) (by kernel_rfl) (fun _ _ _ h => h) ⟨by rfl, ?_⟩ ?_
          rotate_left
          · intro X hI; go_simp; try go_bits
            try rw [if_pos (by omega)]
            try with_reducible rfl
          refine wpI_only (i := 11) rfl (by kernel_rfl) l0 (by rfl) ?_
          intro K hK
          go_simp
          go_wp2_with (go_at_call 49; (with_reducible refine gc.mono ?_); rintro e X1 ⟨rfl, m, hX1⟩; have hon1 : Only gh W6 X1 := (by rw [hX1]; exact hon.drew.drewN m); have hrow1 : X1.ownsRow w.heap.size 3 1 (.slice (some ⟨gh, 0, none⟩) q q) q (ils (upk (hiL 2 n xs) k) q) := (by rw [hX1]; exact hrow); have l1 : X1.cell? ⟨b, off + (2 * k + 1), none⟩ = some (.int .i64 Xv) ∧ X1.cell? ⟨bb, 0, none⟩ = some (.func (.func 49) #[] #[.pointer (some ⟨be, 0, none⟩)]) := (by rw [hX1]; exact l0); have hfz := hrow1.frozenAt k; have hce := hrow1.cellAt k (by omega); rw [ils_get hk2] at hce; have hst := (hrow1.stored k (.int .i64 (Xv - Gv))).1; rw [ils_put, upk_putv e1.out] at hst; have OP : Hid _ := hst; have ON : Hid (Only gh W6 (X1.setCell ⟨gh, k, none⟩ (.int .i64 (Xv - Gv)))) := hon1.put k _; have l2 : (X1.setCell ⟨gh, k, none⟩ (.int .i64 (Xv - Gv))).cell? ⟨b, off + (2 * k + 1), none⟩ = some (.int .i64 Xv) ∧ (X1.setCell ⟨gh, k, none⟩ (.int .i64 (Xv - Gv))).cell? ⟨bb, 0, none⟩ = some (.func (.func 49) #[] #[.pointer (some ⟨be, 0, none⟩)]) := ⟨(((Only.refl gh X1).put k _).cell (p := ⟨b, off + (2 * k + 1), none⟩) (by show b ≠ gh; omega)).trans l1.1, (((Only.refl gh X1).put k _).cell (p := ⟨bb, 0, none⟩) (by show bb ≠ gh; omega)).trans l1.2⟩; clear hst hrow1 hon1 hX1)
          refine wpI_only (i := 12) rfl (by kernel_rfl) l1 (by rfl) ?_
          intro K hK
          go_simp
          try go_bits
          refine hK _ _ ?_
          refine wpI_only (i := 13) rfl (by kernel_rfl) l1 (by rfl) ?_
          intro K hK
          go_simp
          try go_bits
          refine hK _ _ ?_
          refine wpI_only (i := 14) rfl (by kernel_rfl) l1 (by rfl) ?_
          intro K hK
          go_simp
          try go_bits
          refine hK _ _ ?_
          refine wpI_done l2 (by kernel_rfl) ?_ _
          clear l0 l1 l2 gc hrow hon
          go_wp2
          go_roundw
          case rel => exact ⟨k + 1, by go_num, by omega, OP.out, ON.out⟩
          case measure => simp [intOf]; omega
        · obtain rfl : q = k := by omega
          rw [upk_full] at hrow
          have OH8 : Hid (wr.ownsRow w.heap.size 3 1 (.slice (some ⟨gh, 0, none⟩) q q) q (ils (hiL 2 n xs) q)) := hrow
          have OL8 : Hid (wr.ownsRow w.heap.size 3 1 (.slice (some ⟨gl, 0, none⟩) p p) p (ils (upk (loL 2 n xs) 0) p)) := by show wr.ownsRow w.heap.size 3 1 (.slice (some ⟨gl, 0, none⟩) p p) p (ils (upk (loL 2 n xs) 0) p); rw [upk_zero]; exact own_ne OL6.out hon (show gl ≠ gh by omega)
          have OE8 : Hid _ := own_ne OE6.out hon (show ge ≠ gh by omega)
          have BW8 : Hid (Below w.heap.size w wr) := Below.only BW6.out hon (by omega)
          have RB8 : Hid _ := Rg.only RB.out hon (show bb ≠ gh by omega)
          have ch8 : Hid _ := (hon.cell (p := ⟨bh, 0, none⟩) (by show bh ≠ gh; omega)).trans ch6.out
          clear hrow hon hrel RB OE6 OL6 BW6 ce6 ch6 OH7
          go_wp2
          generalize wr = W7 at OH8 OL8 OE8 BW8 RB8 ch8 ⊢
          go_loopw [12, 64] (fun _ i W_ => ∃ k : Nat, i = .int .i64 k ∧ k ≤ p ∧ Hid (W_.ownsRow w.heap.size 3 1 (.slice (some ⟨gl, 0, none⟩) p p) p (ils (upk (loL 2 n xs) k) p) ∧ Only gl W7 W_)) (fun _ i _ => p - (intOf i).toNat)
          case atStart => exact ⟨0, rfl, by omega, OL8.out, Only.refl _ _⟩
          case round =>
            obtain ⟨k, rfl, hk, hrel⟩ := hrel
            obtain ⟨hrow, hon⟩ := hrel.out
            by_cases hk2 : k < p
            · have hk3 : 2 * k < n := by have := HP.out; omega
              have he := own_ne OE8.out hon (show ge ≠ gl by omega)
              have c := he.cellAt k (by omega)
              rw [ils_get hk2] at c
              have cg : wr.cell? ⟨bb, 1, none⟩ = some (.func (.func 56) #[] #[.pointer (some ⟨bh, 0, none⟩)]) := (hon.cell (p := ⟨bb, 1, none⟩) (by show bb ≠ gl; omega)).trans RB8.out.c1
              have hb : wr.drew.cell? ⟨bh, 0, none⟩ = some (.slice (some ⟨gh, 0, none⟩) q q) := (hon.cell (p := ⟨bh, 0, none⟩) (by show bh ≠ gl; omega)).trans ch8.out
              have hh : wr.drew.ownsRow w.heap.size 3 1 (.slice (some ⟨gh, 0, none⟩) q q) q (ils (hiL 2 n xs) q) := own_ne OH8.out hon.drew (show gh ≠ gl by omega)
              have e1 : Hid (evs xs k + md 2 q (hiL 2 n xs) k = loL 2 n xs k) := by show evs xs k + md 2 q (hiL 2 n xs) k = loL 2 n xs k; unfold loL; rw [HP.out.2]
              have gc := m49_any (kind := 2) (M := 3 * M) (by decide) hb (il_of_own hh) k (by omega) bq (by omega) HIB.out
              have y0 := HEV.out k hk2
              have y1 := md_bounds (kind := 2) (by omega) HIB.out k
              generalize md 2 q (hiL 2 n xs) k = Gv at e1 gc y1
              generalize evs xs k = Xv at e1 c y0
              have l0 : wr.drew.cell? ⟨ge, k, none⟩ = some (.int .i64 Xv) ∧ wr.drew.cell? ⟨bb, 1, none⟩ = some (.func (.func 56) #[] #[.pointer (some ⟨bh, 0, none⟩)]) := ⟨c, cg⟩
              clear hrel c cg hb hh he
              go_wp2
              refine wp_region_any (by kernel_rfl) ?_
              change wpAny _ _ _ _ _ _ _ (World.drew _)
              refine wpI_any (I := fun X => X.cell? ⟨ge, k, none⟩ = some (.int .i64 Xv) ∧ X.cell? ⟨bb, 1, none⟩ = some (.func (.func 56) #[] #[.pointer (some ⟨bh, 0, none⟩)])) _ _ _ _ ?_
              refine wpI_take (i := 0) (v := ?_) rfl (by kernel_rfl) (by kernel_rfl) (by kernel_rfl) (fun _ _ _ h => h) ⟨by rfl, ?_⟩ ?_
              rotate_left
              · intro X hI; go_simp; try go_bits
                try rw [if_pos (by omega)]
                try with_reducible rfl
              refine wpI_take (i := 1) (v := ?_) rfl (by kernel_rfl) (by kernel_rfl) (by kernel_rfl) (fun _ _ _ h => h) ⟨by rfl, ?_⟩ ?_
              rotate_left
              · intro X hI; go_simp; try go_bits
                try rw [if_pos (by omega)]
                try with_reducible rfl
              refine wpI_take (i := 2) (v := ?_) rfl (by kernel_rfl) (by kernel_rfl) (by kernel_rfl) (fun _ _ _ h => h) ⟨by rfl, ?_⟩ ?_
              rotate_left
              · intro X hI; go_simp; try go_bits
                try rw [if_pos (by omega)]
                try with_reducible rfl
              refine wpI_take (i := 3) (v := ?_) rfl (by kernel_rfl) (by kernel_rfl) (by kernel_rfl) (fun _ _ _ h => h) ⟨by rfl, ?_⟩ ?_
              rotate_left
              · intro X hI; go_simp; try go_bits
                try rw [if_pos (by omega)]
                try with_reducible rfl
              refine wpI_take (i := 4) (v := ?_) rfl (by kernel_rfl) (by kernel_rfl) (by kernel_rfl) (fun _ _ _ h => h) ⟨by rfl, ?_⟩ ?_
              rotate_left
              · intro X hI; go_simp; try go_bits
                try rw [if_pos (by omega)]
                try with_reducible rfl
              refine wpI_take (i := 5) (v := ?_) rfl (by kernel_rfl) (by kernel_rfl) (by kernel_rfl) (fun _ _ _ h => h) ⟨by rfl, ?_⟩ ?_
              rotate_left
              · intro X hI; obtain ⟨q1, q2⟩ := hI; go_simp; try go_bits
                try rw [if_pos (by omega)]
                try with_reducible rfl
              refine wpI_take (i := 6) (v := ?_) rfl (by kernel_rfl) (by kernel_rfl) (by kernel_rfl) (fun _ _ _ h => h) ⟨by rfl, ?_⟩ ?_
              rotate_left
              · intro X hI; go_simp; try go_bits
                try rw [if_pos (by omega)]
                try with_reducible rfl
              refine wpI_take (i := 7) (v := ?_) rfl (by kernel_rfl) (by kernel_rfl) (by kernel_rfl) (fun _ _ _ h => h) ⟨by rfl, ?_⟩ ?_
              rotate_left
              · intro X hI; obtain ⟨q1, q2⟩ := hI; go_simp; try go_bits
                try rw [if_pos (by omega)]
                try with_reducible rfl
              refine wpI_take (i := 8) (v := ?_) rfl (by kernel_rfl) (by kernel_rfl) (by kernel_rfl) (fun _ _ _ h => h) ⟨by rfl, ?_⟩ ?_
              rotate_left
              · intro X hI; go_simp; try go_bits
                try rw [if_pos (by omega)]
                try with_reducible rfl
              refine wpI_only (i := 9) rfl (by kernel_rfl) l0 (by rfl) ?_
              intro K hK
              go_simp
              go_wp2_with (go_at_call 56; (with_reducible refine gc.mono ?_); rintro e X1 ⟨rfl, m, hX1⟩; have hon1 : Only gl W7 X1 := (by rw [hX1]; exact hon.drew.drewN m); have hrow1 : X1.ownsRow w.heap.size 3 1 (.slice (some ⟨gl, 0, none⟩) p p) p (ils (upk (loL 2 n xs) k) p) := (by rw [hX1]; exact hrow); have l1 : X1.cell? ⟨ge, k, none⟩ = some (.int .i64 Xv) ∧ X1.cell? ⟨bb, 1, none⟩ = some (.func (.func 56) #[] #[.pointer (some ⟨bh, 0, none⟩)]) := (by rw [hX1]; exact l0); have hfz := hrow1.frozenAt k; have hce := hrow1.cellAt k (by omega); rw [ils_get hk2] at hce; have hst := (hrow1.stored k (.int .i64 (Xv + Gv))).1; rw [ils_put, upk_putv e1.out] at hst; have OP : Hid _ := hst; have ON : Hid (Only gl W7 (X1.setCell ⟨gl, k, none⟩ (.int .i64 (Xv + Gv)))) := hon1.put k _; have l2 : (X1.setCell ⟨gl, k, none⟩ (.int .i64 (Xv + Gv))).cell? ⟨ge, k, none⟩ = some (.int .i64 Xv) ∧ (X1.setCell ⟨gl, k, none⟩ (.int .i64 (Xv + Gv))).cell? ⟨bb, 1, none⟩ = some (.func (.func 56) #[] #[.pointer (some ⟨bh, 0, none⟩)]) := ⟨(((Only.refl gl X1).put k _).cell (p := ⟨ge, k, none⟩) (by show ge ≠ gl; omega)).trans l1.1, (((Only.refl gl X1).put k _).cell (p := ⟨bb, 1, none⟩) (by show bb ≠ gl; omega)).trans l1.2⟩; clear hst hrow1 hon1 hX1)
              refine wpI_only (i := 10) rfl (by kernel_rfl) l1 (by rfl) ?_
              intro K hK
              go_simp
              try go_bits
              refine hK _ _ ?_
              refine wpI_only (i := 11) rfl (by kernel_rfl) l1 (by rfl) ?_
              intro K hK
              go_simp
              try go_bits
              refine hK _ _ ?_
              refine wpI_only (i := 12) rfl (by kernel_rfl) l1 (by rfl) ?_
              intro K hK
              go_simp
              try go_bits
              refine hK _ _ ?_
              refine wpI_done l2 (by kernel_rfl) ?_ _
              clear l0 l1 l2 gc hrow hon
              go_wp2
              go_roundw
              case rel => exact ⟨k + 1, by go_num, by omega, OP.out, ON.out⟩
              case measure => simp [intOf]; omega
            · obtain rfl : p = k := by omega
              rw [upk_full] at hrow
              have OL9 : Hid (wr.ownsRow w.heap.size 3 1 (.slice (some ⟨gl, 0, none⟩) p p) p (ils (loL 2 n xs) p)) := hrow
              have OH9 : Hid _ := own_ne OH8.out hon (show gh ≠ gl by omega)
              have BW9 : Hid (Below w.heap.size w wr) := Below.only BW8.out hon (by omega)
              clear hrow hon hrel OH8 OL8 OE8 BW8 RB8 ch8
              go_wp2
              go_ret2
              have hpq := HP.out
              rw [hpq.1, hpq.2]
              exact ⟨_, _, rfl, OL9.out, OH9.out, .inr (fun e => nLH (by simpa [Value.ownBlock] using e)), BW9.out⟩
end Go.Proofs.Ytbcjbighipeafaa
