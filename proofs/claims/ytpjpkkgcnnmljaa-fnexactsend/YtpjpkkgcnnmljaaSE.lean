/- The last stage: hold. -/
import Derived.Test.YtpjpkkgcnnmljaaSD
namespace Go.Proofs.Ytpjpkkgcnnmljaa
open Go.RowKit

theorem prod_b {x s : Int} (hx : -1000 ≤ x ∧ x ≤ 1000) (hs : 1 ≤ s ∧ s ≤ 10000) : -10000000 ≤ x * s ∧ x * s ≤ 10000000 := by
  have h1 : x * s ≤ 1000 * s := Int.mul_le_mul_of_nonneg_right hx.2 (by omega)
  have h2 : -1000 * s ≤ x * s := Int.mul_le_mul_of_nonneg_right hx.1 (by omega)
  omega

set_option maxRecDepth 20000 in
set_option maxHeartbeats 16000000 in
theorem stg_hold {w : World} {p ra Q : Nat} {wi me ro se si : Int} {bv iv pv : Value} {z : Nat → Int} (h : Pas w p wi me ro se (ra : Int) si bv iv pv) (hv : Il2 w pv Q z) (hra : 1 ≤ ra ∧ ra ≤ 8) (hsi : 1 ≤ si ∧ si ≤ 10000) (hQ : 1 ≤ Q ∧ Q ≤ 600) (hz : ∀ k, k < Q * 2 → -1000 ≤ z k ∧ z k ≤ 1000) :
    Calls Try.prog 28 #[.pointer (some ⟨p, 0, none⟩)] w fun e w' => e = .returned (.bool true) ∧ ∃ u, Pas w' p wi me ro se (ra : Int) si bv iv u ∧ w'.ownsRow w.heap.size 47 2 u ((1 + Q) * ra) (ils (zf (hld z ra si ((1 + Q) * ra))) ((1 + Q) * ra * 2)) ∧ Kp p w w' := by
  obtain ⟨i0, hi, hz0, hz1, hz2⟩ := info_parts Try.info47
  have hp := h.lt
  have H : Hid (Pas w p wi me ro se (ra : Int) si bv iv pv) := h
  have HV : Hid (Il2 w pv Q z) := hv
  have HZ : Hid (∀ k, k < (1 + Q) * 2 → -1000 ≤ sq z k ∧ sq z k ≤ 1000) := fun k hk => by
    unfold sq
    by_cases h1 : k = 0
    · rw [if_pos h1]; omega
    · rw [if_neg h1]
      by_cases h2 : k = 1
      · rw [if_pos h2]; omega
      · rw [if_neg h2]; exact hz _ (by omega)
  have B2 : Below w.heap.size w (((w.alloc (.cells #[] 47)).alloc (.cells #[.int .i64 32, .int .i64 0] 47)).drewN 0) := bstep (below_one _ _) (below_one _ _)
  have p9 : ((w.alloc (.cells #[] 47)).alloc (.cells #[.int .i64 32, .int .i64 0] 47)).cell? ⟨p, 9, none⟩ = some pv := (B2.cell hp).trans h.c9
  have hs1 : (w.alloc (.cells #[] 47)).heap.size = w.heap.size + 1 := Array.size_push _
  have hs2 : ((w.alloc (.cells #[] 47)).alloc (.cells #[.int .i64 32, .int .i64 0] 47)).heap.size = w.heap.size + 1 + 1 := by rw [World.size_alloc, hs1]
  have OB : Hid (((w.alloc (.cells #[] 47)).alloc (.cells #[.int .i64 32, .int .i64 0] 47)).ownsRow w.heap.size 47 2 (.slice (some ⟨w.heap.size, 0, none⟩) 0 0) 0 []) := own_below (own_empty w 47 2) (below_one _ _)
  have OS : Hid (((w.alloc (.cells #[] 47)).alloc (.cells #[.int .i64 32, .int .i64 0] 47)).ownsRow w.heap.size 47 2 (.slice (some ⟨w.heap.size + 1, 0, none⟩) 1 1) 1 [.int .i64 32, .int .i64 0]) := by
    have h9 := World.ownsRow_lit (base := (w.alloc (.cells #[] 47)).heap.size) (e := 47) (size := 2) (w.alloc (.cells #[] 47)) #[.int .i64 32, .int .i64 0] 1 (Nat.le_refl _) (by decide) rfl
    have h8 := own_base (B' := w.heap.size) h9 (by omega)
    rw [hs1] at h8
    exact h8
  have HV2 : Hid (Il2 ((w.alloc (.cells #[] 47)).alloc (.cells #[.int .i64 32, .int .i64 0] 47)) pv Q z) := hv.below B2
  have HB2 : Hid (Below w.heap.size w ((w.alloc (.cells #[] 47)).alloc (.cells #[.int .i64 32, .int .i64 0] 47))) := B2
  obtain ⟨ao, cap, rfl, _, _⟩ := hv
  clear h hz B2 hs1
  go_enter Try.func28, Try.ntmps28
  go_wp2_with (first
    | (at_builtin; refine wpList_appp rfl _ _ rfl w.heap.size _ _ 1 Q _ z rfl rfl OS.out HV2.out (by omega) (by omega) (by omega) ?_; intro v3 w3 hown hgrow hblk; have HAL : Apart (.slice (some ⟨w.heap.size, 0, none⟩) 0 0) (.slice (some ⟨w.heap.size + 1, 0, none⟩) 1 1) := .inr (by simp [Value.ownBlock]); have HSR : Hid (w3.ownsRow w.heap.size 47 2 v3 (1 + Q) (ils (sq z) ((1 + Q) * 2))) := (by have e9 := sq_row z (Q * 2); rw [show Q * 2 + 2 = (1 + Q) * 2 by omega] at e9; rw [← e9]; exact hown); have HBU : Hid (w3.ownsRow w.heap.size 47 2 (.slice (some ⟨w.heap.size, 0, none⟩) 0 0) 0 []) := own_grown OB.out hgrow HAL; have HB3 : Hid (Below w.heap.size w w3) := grown_below HB2.out (Nat.le_refl _) OS.out hgrow; have HAP : Hid (Apart (.slice (some ⟨w.heap.size, 0, none⟩) 0 0) v3) := apart_app OB.out HAL hblk; obtain ⟨sa, sc, hs9⟩ := own_slicep HSR.out; subst hs9; clear hown hgrow hblk HAL))
  generalize (.slice (some ⟨w.heap.size, 0, none⟩) 0 0 : Value) = b0 at HAP HBU ⊢
  go_loopw [3, 5, 15] (fun bv9 _ iv wr => ∃ q : Nat, iv = .int .i64 (q : Int) ∧ q ≤ 1 + Q ∧ Hid (wr.ownsRow w.heap.size 47 2 bv9 (q * ra) (ils (zf (hld z ra si (q * ra))) (q * ra * 2)) ∧ wr.ownsRow w.heap.size 47 2 (.slice sa (1 + Q) sc) (1 + Q) (ils (sq z) ((1 + Q) * 2)) ∧ Apart bv9 (.slice sa (1 + Q) sc) ∧ Below w.heap.size w wr)) (fun _ _ iv _ => 1 + Q - (intOf iv).toNat)
  case atStart => exact ⟨0, rfl, by omega, by rw [Nat.zero_mul]; exact HBU.out, HSR.out, HAP.out, HB3.out⟩
  case round =>
    obtain ⟨q, rfl, hq, hrel⟩ := hrel
    by_cases h1 : q < 1 + Q
    · obtain ⟨g, hg9⟩ : ∃ g, sa = some ⟨g, 0, none⟩ := by
        rcases hrel.out.2.1.2 with ⟨_, h2⟩ | ⟨g, cap', cur, h2, _⟩
        · omega
        · injection h2 with h3
          exact ⟨g, h3⟩
      subst hg9
      have d0 := own2_cell hrel.out.2.1 (j := q * 2) (by omega)
      have d1 := own2_cell hrel.out.2.1 (j := q * 2 + 1) (by omega)
      obtain ⟨xx, hX⟩ : ∃ xx, xx = sq z (q * 2) := ⟨_, rfl⟩
      obtain ⟨yy, hY⟩ : ∃ yy, yy = sq z (q * 2 + 1) := ⟨_, rfl⟩
      rw [← hX] at d0
      rw [← hY] at d1
      have hxb : -1000 ≤ xx ∧ xx ≤ 1000 := by rw [hX]; exact HZ.out _ (by omega)
      have hyb : -1000 ≤ yy ∧ yy ≤ 1000 := by rw [hY]; exact HZ.out _ (by omega)
      have HXY : Hid (xx = sq z (q * 2) ∧ yy = sq z (q * 2 + 1)) := ⟨hX, hY⟩
      clear hX hY
      go_upto_region 5 with fail
      have BG := below_one wr (.cells #[.int .i64 xx, .int .i64 yy] 47)
      have g0 : (wr.alloc (.cells #[.int .i64 xx, .int .i64 yy] 47)).cell? ⟨wr.heap.size, 0, none⟩ = some (.int .i64 xx) := by simp [go_sem]
      have g1 : (wr.alloc (.cells #[.int .i64 xx, .int .i64 yy] 47)).cell? ⟨wr.heap.size, 1, none⟩ = some (.int .i64 yy) := by simp [go_sem]
      have HBU : Hid _ := own_below hrel.out.1 BG
      have HSR : Hid _ := own_below hrel.out.2.1 BG
      have HAP : Hid (Apart _ _) := hrel.out.2.2.1
      have HBW : Hid (Below w.heap.size w (wr.alloc (.cells #[.int .i64 xx, .int .i64 yy] 47))) := bstep hrel.out.2.2.2 BG
      have HGB : Hid (some wr.heap.size ≠ u3.ownBlock) := fun h9 => by have := (World.ownsRow.lt hrel.out.1 _ h9.symm).2; omega
      have p4 := (HBW.out.cell (p := ⟨p, 4, none⟩) hp).trans H.out.c4
      obtain ⟨G, hG⟩ : ∃ G, G = wr.heap.size := ⟨_, rfl⟩
      rw [← hG] at g0 g1 HGB
      rw [← hG]
      have G0 : Hid _ := g0
      have G1 : Hid _ := g1
      clear d0 d1 g0 g1 hrel BG hG
      generalize wr.alloc (.cells #[.int .i64 xx, .int .i64 yy] 47) = w5 at *
      go_wp2
      rw [show decide ((q : Int) < 1 + (Q : Int)) = true from decide_eq_true (by omega)]
      go_loopw [3, 24] (fun bv9 jv w6 => ∃ j : Nat, jv = .int .i64 (j : Int) ∧ j ≤ ra ∧ Hid (w6.ownsRow w.heap.size 47 2 bv9 (q * ra + j) (ils (zf (hld z ra si (q * ra + j))) ((q * ra + j) * 2)) ∧ w6.ownsRow w.heap.size 47 2 (.slice (some ⟨g, 0, none⟩) (1 + Q) sc) (1 + Q) (ils (sq z) ((1 + Q) * 2)) ∧ Apart bv9 (.slice (some ⟨g, 0, none⟩) (1 + Q) sc) ∧ (some G ≠ bv9.ownBlock) ∧ Below w.heap.size w w6 ∧ w6.cell? ⟨G, 0, none⟩ = some (.int .i64 xx) ∧ w6.cell? ⟨G, 1, none⟩ = some (.int .i64 yy))) (fun _ jv _ => ra - (intOf jv).toNat)
      case atStart => exact ⟨0, rfl, by omega, HBU.out, HSR.out, HAP.out, HGB.out, HBW.out, G0.out, G1.out⟩
      case round =>
        rename World => w6
        clear HBU HSR HAP HGB HBW G0 G1 p4
        obtain ⟨j, rfl, hj, hrel⟩ := hrel
        by_cases h2 : j < ra
        · obtain ⟨m, hm⟩ : ∃ m, m = q * ra + j := ⟨_, rfl⟩
          rw [← hm] at hrel
          have hmq : m / ra = q := by
            rw [hm, Nat.mul_comm q ra, Nat.mul_add_div (by omega), Nat.div_eq_of_lt h2, Nat.add_zero]
          have HM : Hid (hld z ra si (m + 1) = hld z ra si m ++ [(xx * si, yy * si)]) := by show _ = _; rw [hld_snoc, hmq, ← HXY.out.1, ← HXY.out.2]
          have hm6 : m ≤ 10000 := by
            have h9 : q * ra ≤ 601 * 8 := Nat.mul_le_mul (by omega) hra.2
            omega
          have HMQ : Hid (m = q * ra + j) := hm
          have b1 : -10000000 ≤ xx * si ∧ xx * si ≤ 10000000 := prod_b hxb hsi
          have b2 : -10000000 ≤ yy * si ∧ yy * si ≤ 10000000 := prod_b hyb hsi
          have HSR : Hid _ := hrel.out.2.1
          have HAP : Hid (Apart _ _) := hrel.out.2.2.1
          have HGB : Hid (some G ≠ u3.ownBlock) := hrel.out.2.2.2.1
          have g0 := hrel.out.2.2.2.2.2.1
          have g1 := hrel.out.2.2.2.2.2.2
          have p5 := (hrel.out.2.2.2.2.1.cell (p := ⟨p, 5, none⟩) hp).trans H.out.c5
          have hGl : G < w6.heap.size := World.block_lt_of_cell? w6 _ g0
          have HB30 : Hid (Below w6.heap.size w6 (w6.alloc (.cells #[.int .i64 (xx * si), .int .i64 (yy * si)] 47)).drew) := (below_one w6 _).drew
          have HO3 : Hid ((w6.alloc (.cells #[.int .i64 (xx * si), .int .i64 (yy * si)] 47)).drew.ownsRow w.heap.size 47 2 u3 m (ils (zf (hld z ra si m)) (m * 2))) := own_below hrel.out.1 HB30.out
          have HB3 : Hid (Below w.heap.size w (w6.alloc (.cells #[.int .i64 (xx * si), .int .i64 (yy * si)] 47)).drew) := bstep hrel.out.2.2.2.2.1 HB30.out
          have I1 : (w6.alloc (.cells #[.int .i64 (xx * si), .int .i64 (yy * si)] 47)).drew.cell? ⟨G, 0, none⟩ = some (.int .i64 xx) ∧ (w6.alloc (.cells #[.int .i64 (xx * si), .int .i64 (yy * si)] 47)).drew.cell? ⟨G, 1, none⟩ = some (.int .i64 yy) ∧ (w6.alloc (.cells #[.int .i64 (xx * si), .int .i64 (yy * si)] 47)).drew.cell? ⟨p, 5, none⟩ = some (.int .i64 si) := ⟨(HB30.out.cell hGl).trans g0, (HB30.out.cell hGl).trans g1, (HB3.out.cell hp).trans H.out.c5⟩
          clear hm hmq hrel
          go_upto_region 7 with fail
          refine wp_region_any (by kernel_rfl) ?_
          change wpAny _ _ _ _ _ _ _ (World.drew _)
          refine wpI_any (I := fun Z => Z.cell? ⟨G, 0, none⟩ = some (.int .i64 xx) ∧ Z.cell? ⟨G, 1, none⟩ = some (.int .i64 yy) ∧ Z.cell? ⟨p, 5, none⟩ = some (.int .i64 si)) _ _ _ _ ?_
          refine wpI_take (i := 0) (v := ?_) rfl (by kernel_rfl) (by kernel_rfl) (by kernel_rfl) (fun _ _ _ h => h) ⟨by rfl, ?_⟩ ?_
          rotate_left
          · intro X hI; go_simp; try go_bits
            try rw [if_pos (by omega)]
            try with_reducible rfl
          refine wpI_take (i := 1) (v := ?_) rfl (by kernel_rfl) (by kernel_rfl) (by kernel_rfl) (fun _ _ _ h => h) ⟨by rfl, ?_⟩ ?_
          rotate_left
          · intro X hI; go_simp; try go_bits
            try rw [if_pos (by omega)]
            try with_reducible rfl
          refine wpI_take (i := 2) (v := ?_) rfl (by kernel_rfl) (by kernel_rfl) (by kernel_rfl) (fun _ _ _ h => h) ⟨by rfl, ?_⟩ ?_
          rotate_left
          · intro X hI; obtain ⟨q0, q1, q5⟩ := hI; go_simp; try go_bits
            try rw [if_pos (by omega)]
            try with_reducible rfl
          refine wpI_take (i := 3) (v := ?_) rfl (by kernel_rfl) (by kernel_rfl) (by kernel_rfl) (fun _ _ _ h => h) ⟨by rfl, ?_⟩ ?_
          rotate_left
          · intro X hI; go_simp; try go_bits
            try rw [if_pos (by omega)]
            try with_reducible rfl
          refine wpI_take (i := 4) (v := ?_) rfl (by kernel_rfl) (by kernel_rfl) (by kernel_rfl) (fun _ _ _ h => h) ⟨by rfl, ?_⟩ ?_
          rotate_left
          · intro X hI; go_simp; try go_bits
            try rw [if_pos (by omega)]
            try with_reducible rfl
          refine wpI_take (i := 5) (v := ?_) rfl (by kernel_rfl) (by kernel_rfl) (by kernel_rfl) (fun _ _ _ h => h) ⟨by rfl, ?_⟩ ?_
          rotate_left
          · intro X hI; go_simp; try go_bits
            try rw [if_pos (by omega)]
            try with_reducible rfl
          refine wpI_take (i := 6) (v := ?_) rfl (by kernel_rfl) (by kernel_rfl) (by kernel_rfl) (fun _ _ _ h => h) ⟨by rfl, ?_⟩ ?_
          rotate_left
          · intro X hI; go_simp; try go_bits
            try rw [if_pos (by omega)]
            try with_reducible rfl
          refine wpI_take (i := 7) (v := ?_) rfl (by kernel_rfl) (by kernel_rfl) (by kernel_rfl) (fun _ _ _ h => h) ⟨by rfl, ?_⟩ ?_
          rotate_left
          · intro X hI; obtain ⟨q0, q1, q5⟩ := hI; go_simp; try go_bits
            try rw [if_pos (by omega)]
            try with_reducible rfl
          refine wpI_take (i := 8) (v := ?_) rfl (by kernel_rfl) (by kernel_rfl) (by kernel_rfl) (fun _ _ _ h => h) ⟨by rfl, ?_⟩ ?_
          rotate_left
          · intro X hI; go_simp; try go_bits
            try rw [if_pos (by omega)]
            try with_reducible rfl
          refine wpI_take (i := 9) (v := ?_) rfl (by kernel_rfl) (by kernel_rfl) (by kernel_rfl) (fun _ _ _ h => h) ⟨by rfl, ?_⟩ ?_
          rotate_left
          · intro X hI; go_simp; try go_bits
            try rw [if_pos (by omega)]
            try with_reducible rfl
          refine wpI_take (i := 10) (v := ?_) rfl (by kernel_rfl) (by kernel_rfl) (by kernel_rfl) (fun _ _ _ h => h) ⟨by rfl, ?_⟩ ?_
          rotate_left
          · intro X hI; obtain ⟨q0, q1, q5⟩ := hI; go_simp; try go_bits
            try rw [if_pos (by omega)]
            try with_reducible rfl
          refine wpI_take (i := 11) (v := ?_) rfl (by kernel_rfl) (by kernel_rfl) (by kernel_rfl) (fun _ _ _ h => h) ⟨by rfl, ?_⟩ ?_
          rotate_left
          · intro X hI; go_simp; try go_bits
            try rw [if_pos (by omega)]
            try with_reducible rfl
          refine wpI_take (i := 12) (v := ?_) rfl (by kernel_rfl) (by kernel_rfl) (by kernel_rfl) (fun _ _ _ h => h) ⟨by rfl, ?_⟩ ?_
          rotate_left
          · intro X hI; go_simp; try go_bits
            try rw [if_pos (by omega)]
            try with_reducible rfl
          refine wpI_take (i := 13) (v := ?_) rfl (by kernel_rfl) (by kernel_rfl) (by kernel_rfl) (fun _ _ _ h => h) ⟨by rfl, ?_⟩ ?_
          rotate_left
          · intro X hI; go_simp; try go_bits
            try rw [if_pos (by omega)]
            try with_reducible rfl
          refine wpI_take (i := 14) (v := ?_) rfl (by kernel_rfl) (by kernel_rfl) (by kernel_rfl) (fun _ _ _ h => h) ⟨by rfl, ?_⟩ ?_
          rotate_left
          · intro X hI; go_simp; try go_bits
            try rw [if_pos (by omega)]
            try with_reducible rfl
          refine wpI_take (i := 15) (v := ?_) rfl (by kernel_rfl) (by kernel_rfl) (by kernel_rfl) (fun _ _ _ h => h) ⟨by rfl, ?_⟩ ?_
          rotate_left
          · intro X hI; obtain ⟨q0, q1, q5⟩ := hI; go_simp; try go_bits
            try rw [if_pos (by omega)]
            try with_reducible rfl
          refine wpI_take (i := 16) (v := ?_) rfl (by kernel_rfl) (by kernel_rfl) (by kernel_rfl) (fun _ _ _ h => h) ⟨by rfl, ?_⟩ ?_
          rotate_left
          · intro X hI; go_simp; try go_bits
            try rw [if_pos (by omega)]
            try with_reducible rfl
          refine wpI_take (i := 17) (v := ?_) rfl (by kernel_rfl) (by kernel_rfl) (by kernel_rfl) (fun _ _ _ h => h) ⟨by rfl, ?_⟩ ?_
          rotate_left
          · intro X hI; go_simp; try go_bits
            try rw [if_pos (by omega)]
            try with_reducible rfl
          refine wpI_only (i := 18) rfl (by kernel_rfl) ⟨g0, g1, p5⟩ (by rfl) ?_
          intro K hK
          go_simp
          try go_bits
          refine hK _ _ ?_
          clear hK K
          refine wpI_only (i := 19) rfl (by kernel_rfl) I1 (by rfl) ?_
          intro K hK
          refine wp_app _ _ _ 25 rfl w.heap.size 47 i0 (.agg #[.int .i64 0, .int .i64 0]) 2 16 Try.underlying25 hi hz0 hz1 hz2 rfl (by decide) _ _ _ rfl HO3.out ⟨w6.heap.size, 0, none⟩ 1 1 [.int .i64 (xx * si), .int .i64 (yy * si)] rfl rfl (fun j u h => two_new w6 _ _ 47 j u h) (by simp [Value.oneCell']) (by unfold maxLen; omega) (by omega) HB3.out.size (by omega) ?_
          intro v' w4 hown' hgrow hwh
          have HB4 : Hid (Below w.heap.size w w4) := grown_below HB3.out (Nat.le_refl _) HO3.out hgrow
          have HO4 : Hid (w4.ownsRow w.heap.size 47 2 v' (m + 1) (ils (zf (hld z ra si (m + 1))) ((m + 1) * 2))) := (by have e9 := zf_snoc (hld z ra si m) (xx * si) (yy * si); rw [hld_len] at e9; rw [HM.out, e9]; exact hown')
          have hne : ∀ k, k < w6.heap.size → some k ≠ u3.ownBlock → w4.heap[k]? = w6.heap[k]? := fun k hk h9 => (hgrow.block k (Nat.lt_of_lt_of_le hk HB30.out.size) h9).trans (HB30.out.block k hk)
          have G0 : w4.cell? ⟨G, 0, none⟩ = some (.int .i64 xx) := (World.cell?_of_block (w := w6) (hne G hGl HGB.out)).trans g0
          have G1 : w4.cell? ⟨G, 1, none⟩ = some (.int .i64 yy) := (World.cell?_of_block (w := w6) (hne G hGl HGB.out)).trans g1
          have I4 : w4.cell? ⟨G, 0, none⟩ = some (.int .i64 xx) ∧ w4.cell? ⟨G, 1, none⟩ = some (.int .i64 yy) ∧ w4.cell? ⟨p, 5, none⟩ = some (.int .i64 si) := ⟨G0, G1, (HB4.out.cell hp).trans H.out.c5⟩
          have HS4 : Hid (w4.ownsRow w.heap.size 47 2 (.slice (some ⟨g, 0, none⟩) (1 + Q) sc) (1 + Q) (ils (sq z) ((1 + Q) * 2))) := own_grown (own_below HSR.out HB30.out) hgrow (apart_symm HAP.out)
          have HA4 : Hid (Apart v' (.slice (some ⟨g, 0, none⟩) (1 + Q) sc)) := apart_symm (apart_app (own_below HSR.out HB30.out) (apart_symm HAP.out) (hwh.imp id (fun x => x.1)))
          have HG4 : Hid (some G ≠ v'.ownBlock) := hwh.elim (fun h9 => by show some G ≠ _; rw [h9]; exact HGB.out) (fun h9 => by show some G ≠ _; rw [h9.1]; intro h8; injection h8 with h8; have := HB30.out.size; omega)
          clear hown' hgrow hwh hne G0 G1
          refine hK _ _ ?_
          clear hK K
          refine wpI_only (i := 20) rfl (by kernel_rfl) I4 (by rfl) ?_
          intro K hK
          go_simp
          try go_bits
          refine hK _ _ ?_
          refine wpI_done I4 (by kernel_rfl) ?_ _
          go_wp2
          go_roundw
          case rel => exact ⟨j + 1, by go_num, by omega, by rw [show q * ra + (j + 1) = m + 1 by rw [HMQ.out]; rfl]; exact HO4.out, HS4.out, HA4.out, HG4.out, HB4.out, I4.1, I4.2.1⟩
          case measure => simp [intOf]; omega
        · obtain rfl : j = ra := by omega
          have HQ1 : Hid (q * j + j = (q + 1) * j) := by show _ = _; rw [Nat.add_mul, Nat.one_mul]
          go_wp2
          go_roundw
          case rel => exact ⟨q + 1, by go_num, by omega, by rw [← HQ1.out]; exact hrel.out.1, hrel.out.2.1, hrel.out.2.2.1, hrel.out.2.2.2.2.1⟩
          case measure => simp [intOf]; omega
    · obtain rfl : q = 1 + Q := by omega
      obtain ⟨ba, bc, hb9⟩ := own_slicep hrel.out.1
      subst hb9
      have HP : Hid (Pas wr p wi me ro se (ra : Int) si bv iv _) := H.out.below hrel.out.2.2.2 hp
      have z9 := HP.out.z9
      have d9 := HP.out.c9
      have HB : Hid (Below w.heap.size w wr) := hrel.out.2.2.2
      have HO : Hid _ := hrel.out.1
      clear hrel
      go_wp2
      go_ret
      exact ⟨rfl, _, HP.out.put9 _, own_kp ((Kp.refl p wr).put 9 _) HO.out hp, ((Kp.refl p w).below HB.out).put 9 _⟩
end Go.Proofs.Ytpjpkkgcnnmljaa
