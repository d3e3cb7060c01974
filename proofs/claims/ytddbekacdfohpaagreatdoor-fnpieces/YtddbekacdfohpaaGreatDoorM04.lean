/- VW2 VW3 N1. -/
import Derived.Test.YtddbekacdfohpaaGreatDoorM03
import Derived.BigRegion
import Derived.Test.YtddbekacdfohpaaGreatDoorM02
import Derived.Lib.TrailingZeros
namespace Go.Proofs.YtddbekacdfohpaaGreatDoor.Wv
open Go.RowKit

theorem own_two (w : World) (t : TypeId) (x y : Int) : (w.alloc (.cells #[.int .i64 x, .int .i64 y] t)).ownsRow w.heap.size t 1 (.slice (some ⟨w.heap.size, 0, none⟩) 2 2) 2 [.int .i64 x, .int .i64 y] :=
  ⟨by simp, .inr ⟨w.heap.size, 2, #[.int .i64 x, .int .i64 y], rfl, Nat.le_refl _, heap_alloc_new w _, Nat.le_refl _, by decide, by simp, by simp⟩⟩

theorem ct_1 : ct 1 = 1073418433 := by decide +kernel

/-- The rule, as the model has it. -/
theorem ct_rule {k : Nat} (h : 2 ≤ k) (h2 : k < 64) : rdV (2 * 1073418433 * ct (k - 1)) 1073741824 - ct (k - 2) = ct k := by
  have := ct_step (j := k - 1) (by omega)
  have e : pv (k - 1) = ct (k - 2) := by unfold pv; rw [if_neg (by omega)]; rfl
  rw [e, show k - 1 + 1 = k by omega] at this
  exact this

set_option maxRecDepth 20000 in
set_option maxHeartbeats 2000000 in
theorem all_any (w : World) : Calls Tryz.prog 100 #[] w fun e w' => ∃ v, e = .returned v ∧ Il w' v 65 ct ∧ Below w.heap.size w w' := by
  obtain ⟨i0, hi, hz0, hz1, hz2⟩ := info_parts Tryz.info3
  have o2 := own_two w 3 1073741824 1073418433
  have e2 : [Value.int .i64 1073741824, Value.int .i64 1073418433] = ils ct 2 := by
    show _ = [Value.int .i64 (ct 0), Value.int .i64 (ct 1)]
    rw [ct_0, ct_1]
  rw [e2] at o2
  have O2 : Hid _ := o2
  clear o2 e2
  have c1 := ct_1
  go_enter Tryz.func100, Tryz.ntmps100
  go_wp2
  go_loopw [1, 2] (fun o i wr => ∃ k : Nat, i = .int .i64 k ∧ 2 ≤ k ∧ k ≤ 64 ∧ Hid (wr.ownsRow w.heap.size 3 1 o k (ils ct k) ∧ Below w.heap.size w wr)) (fun _ i _ => 64 - (intOf i).toNat)
  case atStart => exact ⟨2, rfl, by omega, by omega, O2.out, below_one _ _⟩
  case round =>
    obtain ⟨k, rfl, hk2, hk, hrel⟩ := hrel
    obtain ⟨hrow, hbl⟩ := hrel.out
    have HO : Hid _ := hrow
    have HB : Hid (Below w.heap.size w wr) := hbl
    rcases hrow.2 with ⟨rfl, h0⟩ | ⟨g, cap, cur, rfl, hgb, hg, hcap, _⟩
    · omega
    by_cases h1 : k < 64
    · have d1 := World.ownsRow.cellAt HO.out 1 (by omega)
      have d2 := World.ownsRow.cellAt HO.out (k - 1) (by omega)
      have d3 := World.ownsRow.cellAt HO.out (k - 2) (by omega)
      rw [ils_get (by omega), ct_1] at d1
      rw [ils_get (by omega)] at d2 d3
      have b2 := ct_bounds (k - 1)
      have b3 := ct_bounds (k - 2)
      have i1 := sRound_any (2 * 1073418433 * ct (k - 1)) 1073741824
      have b4 := rd_bounds (j := k - 1) (by omega)
      have e4 := ct_rule hk2 h1
      have e5 : (2 * 1073418433 * ct (k - 1) : Int) = 2146836866 * ct (k - 1) := by omega
      rw [e5] at i1 e4
      generalize rdV (2146836866 * ct (k - 1)) 1073741824 = R at i1 b4 e4
      generalize ct (k - 1) = A at d2 b2 i1
      generalize ct (k - 2) = B at d3 b3 e4
      have hb3 : Below wr.heap.size wr (wr.alloc (.cells #[.int .i64 (ct k)] 3)).drew := (below_one wr _).drew
      have HO3 : Hid _ := own_below HO.out hb3
      have HB3 : Hid (Below w.heap.size w (wr.alloc (.cells #[.int .i64 (ct k)] 3)).drew) := bstep hbl hb3
      have keep : ∀ (X : World) (a : Addr) (v : Value), Below wr.heap.size wr X → wr.cell? a = some v → X.cell? a = some v := fun X a v hX h => (hX.cell (World.block_lt_of_cell? _ _ h)).trans h
      have l0 : Below w.heap.size w wr.drew ∧ wr.drew.cell? ⟨g, 1, none⟩ = some (.int .i64 1073418433) ∧ wr.drew.cell? ⟨g, k - 1, none⟩ = some (.int .i64 A) ∧ wr.drew.cell? ⟨g, k - 2, none⟩ = some (.int .i64 B) := ⟨hbl.drew, d1, d2, d3⟩
      have l1 : Below w.heap.size w (wr.alloc (.cells #[.int .i64 (ct k)] 3)).drew ∧ (wr.alloc (.cells #[.int .i64 (ct k)] 3)).drew.cell? ⟨g, 1, none⟩ = some (.int .i64 1073418433) ∧ (wr.alloc (.cells #[.int .i64 (ct k)] 3)).drew.cell? ⟨g, k - 1, none⟩ = some (.int .i64 A) ∧ (wr.alloc (.cells #[.int .i64 (ct k)] 3)).drew.cell? ⟨g, k - 2, none⟩ = some (.int .i64 B) := ⟨HB3.out, keep _ _ _ hb3 d1, keep _ _ _ hb3 d2, keep _ _ _ hb3 d3⟩
      clear keep hb3 d1 d2 d3
      go_upto_region 5 with fail
      refine wp_region_any (by kernel_rfl) ?_
      change wpAny _ _ _ _ _ _ _ (World.drew _)
      refine wpI_any (I := fun X => Below w.heap.size w X ∧ X.cell? ⟨g, 1, none⟩ = some (.int .i64 1073418433) ∧ X.cell? ⟨g, k - 1, none⟩ = some (.int .i64 A) ∧ X.cell? ⟨g, k - 2, none⟩ = some (.int .i64 B)) _ _ _ _ ?_
      refine wpI_take (i := 0) (v := ?_) rfl (by kernel_rfl) (by kernel_rfl) (by kernel_rfl) (fun _ _ _ h => h) ⟨by rfl, ?_⟩ ?_
      rotate_left
      · intro X hI; go_simp; try go_bits
        try rw [if_pos (by omega)]
        try with_reducible rfl
      refine wpI_take (i := 1) (v := ?_) rfl (by kernel_rfl) (by kernel_rfl) (by kernel_rfl) (fun _ _ _ h => h) ⟨by rfl, ?_⟩ ?_
      rotate_left
      · intro X hI; go_simp; try go_bits
        try rw [if_pos (by omega)]
        try with_reducible rfl
      refine wpI_take (i := 2) (v := ?_) rfl (by kernel_rfl) (by kernel_rfl) (by kernel_rfl) (fun _ _ _ h => h) ⟨by rfl, ?_⟩ ?_
      rotate_left
      · intro X hI; go_simp; try go_bits
        try rw [if_pos (by omega)]
        try with_reducible rfl
      refine wpI_take (i := 3) (v := ?_) rfl (by kernel_rfl) (by kernel_rfl) (by kernel_rfl) (fun _ _ _ h => h) ⟨by rfl, ?_⟩ ?_
      rotate_left
      · intro X hI; obtain ⟨_, q1, q2, q3⟩ := hI; go_simp; try go_bits
        try rw [if_pos (by omega)]
        try with_reducible rfl
      refine wpI_take (i := 4) (v := ?_) rfl (by kernel_rfl) (by kernel_rfl) (by kernel_rfl) (fun _ _ _ h => h) ⟨by rfl, ?_⟩ ?_
      rotate_left
      · intro X hI; go_simp; try go_bits
        try rw [if_pos (by omega)]
        try with_reducible rfl
      refine wpI_take (i := 5) (v := ?_) rfl (by kernel_rfl) (by kernel_rfl) (by kernel_rfl) (fun _ _ _ h => h) ⟨by rfl, ?_⟩ ?_
      rotate_left
      · intro X hI; go_simp; try go_bits
        try rw [if_pos (by omega)]
        try with_reducible rfl
      refine wpI_take (i := 6) (v := ?_) rfl (by kernel_rfl) (by kernel_rfl) (by kernel_rfl) (fun _ _ _ h => h) ⟨by rfl, ?_⟩ ?_
      rotate_left
      · intro X hI; go_simp; try go_bits
        try rw [if_pos (by omega)]
        try with_reducible rfl
      refine wpI_take (i := 7) (v := ?_) rfl (by kernel_rfl) (by kernel_rfl) (by kernel_rfl) (fun _ _ _ h => h) ⟨by rfl, ?_⟩ ?_
      rotate_left
      · intro X hI; go_simp; try go_bits
        try rw [if_pos (by omega)]
        try with_reducible rfl
      refine wpI_take (i := 8) (v := ?_) rfl (by kernel_rfl) (by kernel_rfl) (by kernel_rfl) (fun _ _ _ h => h) ⟨by rfl, ?_⟩ ?_
      rotate_left
      · intro X hI; go_simp; try go_bits
        try rw [if_pos (by omega)]
        try with_reducible rfl
      refine wpI_take (i := 9) (v := ?_) rfl (by kernel_rfl) (by kernel_rfl) (by kernel_rfl) (fun _ _ _ h => h) ⟨by rfl, ?_⟩ ?_
      rotate_left
      · intro X hI; obtain ⟨_, q1, q2, q3⟩ := hI; go_simp; try go_bits
        try rw [if_pos (by omega)]
        try with_reducible rfl
      refine wpI_take (i := 10) (v := ?_) rfl (by kernel_rfl) (by kernel_rfl) (by kernel_rfl) (fun _ _ _ h => h) ⟨by rfl, ?_⟩ ?_
      rotate_left
      · intro X hI; go_simp; try go_bits
        try rw [if_pos (by omega)]
        try with_reducible rfl
      refine wpI_take (i := 12) (v := ?_) rfl (by kernel_rfl) (by kernel_rfl) (by kernel_rfl) (fun _ _ _ h => h) ⟨by rfl, ?_⟩ ?_
      rotate_left
      · intro X hI; go_simp; try go_bits
        try rw [if_pos (by omega)]
        try with_reducible rfl
      refine wpI_take (i := 13) (v := ?_) rfl (by kernel_rfl) (by kernel_rfl) (by kernel_rfl) (fun _ _ _ h => h) ⟨by rfl, ?_⟩ ?_
      rotate_left
      · intro X hI; go_simp; try go_bits
        try rw [if_pos (by omega)]
        try with_reducible rfl
      refine wpI_take (i := 14) (v := ?_) rfl (by kernel_rfl) (by kernel_rfl) (by kernel_rfl) (fun _ _ _ h => h) ⟨by rfl, ?_⟩ ?_
      rotate_left
      · intro X hI; go_simp; try go_bits
        try rw [if_pos (by omega)]
        try with_reducible rfl
      refine wpI_take (i := 15) (v := ?_) rfl (by kernel_rfl) (by kernel_rfl) (by kernel_rfl) (fun _ _ _ h => h) ⟨by rfl, ?_⟩ ?_
      rotate_left
      · intro X hI; go_simp; try go_bits
        try rw [if_pos (by omega)]
        try with_reducible rfl
      refine wpI_take (i := 16) (v := ?_) rfl (by kernel_rfl) (by kernel_rfl) (by kernel_rfl) (fun _ _ _ h => h) ⟨by rfl, ?_⟩ ?_
      rotate_left
      · intro X hI; obtain ⟨_, q1, q2, q3⟩ := hI; go_simp; try go_bits
        try rw [if_pos (by omega)]
        try with_reducible rfl
      refine wpI_only (i := 11) rfl (by kernel_rfl) l0 (by rfl) ?_
      intro K hK
      go_simp
      go_wp2_with (go_at_call 111; (with_reducible refine (i1 _).mono ?_); rintro e w' ⟨rfl, hw⟩; obtain rfl := hw.symm)
      refine wpI_only (i := 17) rfl (by kernel_rfl) l0 (by rfl) ?_
      intro K hK
      go_simp
      try go_bits
      refine hK _ _ ?_
      refine wpI_only (i := 18) rfl (by kernel_rfl) l0 (by rfl) ?_
      intro K hK
      go_simp
      try go_bits
      refine hK _ _ ?_
      refine wpI_only (i := 19) rfl (by kernel_rfl) l1 (by rfl) ?_
      intro K hK
      refine wp_app _ _ _ 45 rfl w.heap.size 3 i0 (.int .i64 0) 1 8 Tryz.underlying45 hi hz0 hz1 hz2 rfl (by decide) _ _ _ rfl HO3.out ⟨wr.heap.size, 0, none⟩ 1 1 [.int .i64 (ct k)] rfl rfl (fun j u h => one_new wr _ 3 j u h) (by simp [Value.oneCell']) (by unfold maxLen; omega) (by omega) HB3.out.size (by decide) ?_
      intro v' w4 hown' hgrow hkeep
      have HB4 : Hid (Below w.heap.size w w4) := grown_below HB3.out (Nat.le_refl _) HO3.out hgrow
      have k1 := app_cell HO3.out hown' hkeep (j := 1) (by rw [ils_length]; omega)
      have k2 := app_cell HO3.out hown' hkeep (j := k - 1) (by rw [ils_length]; omega)
      have k3 := app_cell HO3.out hown' hkeep (j := k - 2) (by rw [ils_length]; omega)
      have l2 : Below w.heap.size w w4 ∧ w4.cell? ⟨g, 1, none⟩ = some (.int .i64 1073418433) ∧ w4.cell? ⟨g, k - 1, none⟩ = some (.int .i64 A) ∧ w4.cell? ⟨g, k - 2, none⟩ = some (.int .i64 B) := ⟨HB4.out, k1.trans l1.2.1, k2.trans l1.2.2.1, k3.trans l1.2.2.2⟩
      rw [← ils_snoc ct k] at hown'
      have HO4 : Hid (w4.ownsRow w.heap.size 3 1 v' (k + 1) (ils ct (k + 1))) := hown'
      clear hown' hgrow hkeep k1 k2 k3
      refine hK _ _ ?_
      refine wpI_only (i := 20) rfl (by kernel_rfl) l2 (by rfl) ?_
      intro K hK
      go_simp
      try go_bits
      refine hK _ _ ?_
      refine wpI_done l2 (by kernel_rfl) ?_ _
      clear l2
      go_wp2
      go_roundw
      case rel => exact ⟨k + 1, by go_num, by omega, by omega, HO4.out, HB4.out⟩
      case measure => simp [intOf]; omega
    · obtain rfl : k = 64 := by omega
      have hb3 := below_one wr (.cells #[.int .i64 0] 3)
      have HO3 := own_below HO.out hb3
      have HB3 := bstep HB.out hb3
      clear hb3
      go_wp2_with (first | (at_builtin; refine wpList_append_own _ rfl _ _ 45 rfl w.heap.size 3 i0 (.int .i64 0) 1 8 Tryz.underlying45 hi hz0 hz1 hz2 rfl (by decide) _ _ _ rfl HO3 ⟨wr.heap.size, 0, none⟩ 1 1 [.int .i64 0] rfl rfl (one_new _ _ _) (by simp [Value.oneCell']) (by unfold maxLen; omega) (by omega) HB3.size ?_))
      intro v' w4 hown' hgrow _
      have HB4 : Hid _ := grown_below HB3 (Nat.le_refl _) HO3 hgrow
      rw [← ct_end, ← ils_snoc ct 64] at hown'
      have HO4 : Hid (w4.ownsRow w.heap.size 3 1 v' 65 (ils ct 65)) := hown'
      clear hown' hgrow HB3 HO3
      go_wp2
      go_ret
      exact ⟨_, rfl, il_of_own HO4.out, HB4.out⟩
end Go.Proofs.YtddbekacdfohpaaGreatDoor.Wv

namespace Go.Proofs.YtddbekacdfohpaaGreatDoor.Wv
open Go.RowKit

set_option maxRecDepth 20000 in
set_option maxHeartbeats 2000000 in
theorem at_any {w : World} {v : Value} (hv : Il w v 65 ct) (s : Int) : Calls Tryz.prog 99 #[v, .int .i64 s] w fun e w' => e = .returned (.int .i64 (cosv s)) ∧ w' = w := by
  obtain ⟨ao, cap, rfl, hcap, hc⟩ := hv
  obtain ⟨b, off, rfl, hlt, hcell⟩ := hc (by omega)
  clear hc
  have r0 := Int.emod_nonneg s (show (256 : Int) ≠ 0 by decide)
  have r1 := Int.emod_lt_of_pos s (show (0 : Int) < 256 by decide)
  have t1 := Int.tmod_lt_of_pos s (show (0 : Int) < 256 by decide)
  have t2 := Int.lt_tmod_of_pos s (show (0 : Int) < 256 by decide)
  have hv : cosv s = cosr (s % 256) := rfl
  rw [hv]
  clear hv
  obtain ⟨n, hn⟩ := Int.eq_ofNat_of_zero_le r0
  obtain ⟨y, hy⟩ : ∃ y, y = cosr (n : Int) := ⟨_, rfl⟩
  rw [hn, ← hy]
  have HY : Hid (y = cosr (n : Int)) := hy
  clear hy
  by_cases ht : s.tmod 256 < 0
  · have q := (tdiv_neg (show (1 : Int) ≤ 256 by decide) ht).2
    rw [hn] at q r1
    clear hn r0
    generalize hT : s.tmod 256 = t at *
    have q2 : t = (n : Int) - 256 := by omega
    subst q2
    by_cases g0 : n ≤ 64
    · have d := hcell (n) (by omega)
      have hb := ct_bounds (n)
      obtain ⟨x, hx⟩ : ∃ x, x = ct (n) := ⟨_, rfl⟩
      have E : Hid (x = y) := by rw [HY.out, hx]; unfold cosr; rw [if_pos (by omega)]; congr 1 <;> omega
      rw [← hx] at d hb
      clear hx hcell HY
      go_enter Tryz.func99, Tryz.ntmps99
      go_wp2
      go_ret
      exact ret1 E.out rfl
    · by_cases g1 : n ≤ 128
      · have d := hcell (128 - n) (by omega)
        have hb := ct_bounds (128 - n)
        obtain ⟨x, hx⟩ : ∃ x, x = ct (128 - n) := ⟨_, rfl⟩
        have E : Hid (-x = y) := by rw [HY.out, hx]; unfold cosr; rw [if_neg (by omega), if_pos (by omega)]; congr 2 <;> omega
        rw [← hx] at d hb
        clear hx hcell HY
        go_enter Tryz.func99, Tryz.ntmps99
        go_wp2
        go_ret
        exact ret1 E.out rfl
      · by_cases g2 : n ≤ 192
        · have d := hcell (n - 128) (by omega)
          have hb := ct_bounds (n - 128)
          obtain ⟨x, hx⟩ : ∃ x, x = ct (n - 128) := ⟨_, rfl⟩
          have E : Hid (-x = y) := by rw [HY.out, hx]; unfold cosr; rw [if_neg (by omega), if_neg (by omega), if_pos (by omega)]; congr 2 <;> omega
          rw [← hx] at d hb
          clear hx hcell HY
          go_enter Tryz.func99, Tryz.ntmps99
          go_wp2
          go_ret
          exact ret1 E.out rfl
        · have d := hcell (256 - n) (by omega)
          have hb := ct_bounds (256 - n)
          obtain ⟨x, hx⟩ : ∃ x, x = ct (256 - n) := ⟨_, rfl⟩
          have E : Hid (x = y) := by rw [HY.out, hx]; unfold cosr; rw [if_neg (by omega), if_neg (by omega), if_neg (by omega)]; congr 1 <;> omega
          rw [← hx] at d hb
          clear hx hcell HY
          go_enter Tryz.func99, Tryz.ntmps99
          go_wp2
          go_ret
          exact ret1 E.out rfl

  · have q := (tdiv_pos (show (1 : Int) ≤ 256 by decide) ht).2
    rw [hn] at q r1
    clear hn r0
    generalize hT : s.tmod 256 = t at *
    subst q
    by_cases g0 : n ≤ 64
    · have d := hcell (n) (by omega)
      have hb := ct_bounds (n)
      obtain ⟨x, hx⟩ : ∃ x, x = ct (n) := ⟨_, rfl⟩
      have E : Hid (x = y) := by rw [HY.out, hx]; unfold cosr; rw [if_pos (by omega)]; congr 1 <;> omega
      rw [← hx] at d hb
      clear hx hcell HY
      go_enter Tryz.func99, Tryz.ntmps99
      go_wp2
      go_ret
      exact ret1 E.out rfl
    · by_cases g1 : n ≤ 128
      · have d := hcell (128 - n) (by omega)
        have hb := ct_bounds (128 - n)
        obtain ⟨x, hx⟩ : ∃ x, x = ct (128 - n) := ⟨_, rfl⟩
        have E : Hid (-x = y) := by rw [HY.out, hx]; unfold cosr; rw [if_neg (by omega), if_pos (by omega)]; congr 2 <;> omega
        rw [← hx] at d hb
        clear hx hcell HY
        go_enter Tryz.func99, Tryz.ntmps99
        go_wp2
        go_ret
        exact ret1 E.out rfl
      · by_cases g2 : n ≤ 192
        · have d := hcell (n - 128) (by omega)
          have hb := ct_bounds (n - 128)
          obtain ⟨x, hx⟩ : ∃ x, x = ct (n - 128) := ⟨_, rfl⟩
          have E : Hid (-x = y) := by rw [HY.out, hx]; unfold cosr; rw [if_neg (by omega), if_neg (by omega), if_pos (by omega)]; congr 2 <;> omega
          rw [← hx] at d hb
          clear hx hcell HY
          go_enter Tryz.func99, Tryz.ntmps99
          go_wp2
          go_ret
          exact ret1 E.out rfl
        · have d := hcell (256 - n) (by omega)
          have hb := ct_bounds (256 - n)
          obtain ⟨x, hx⟩ : ∃ x, x = ct (256 - n) := ⟨_, rfl⟩
          have E : Hid (x = y) := by rw [HY.out, hx]; unfold cosr; rw [if_neg (by omega), if_neg (by omega), if_neg (by omega)]; congr 1 <;> omega
          rw [← hx] at d hb
          clear hx hcell HY
          go_enter Tryz.func99, Tryz.ntmps99
          go_wp2
          go_ret
          exact ret1 E.out rfl

set_option maxHeartbeats 1000000 in
theorem sCos_any (s : Int) (w : World) : Calls Tryz.prog 76 #[.int .i64 s] w fun e w' => e = .returned (.int .i64 (cosv s)) ∧ Below w.heap.size w w' := by
  have i1 := all_any w
  have i2 : ∀ W v, Il W v 65 ct → Calls Tryz.prog 99 #[v, .int .i64 s] W fun e w' => e = .returned (.int .i64 (cosv s)) ∧ w' = W := fun W v h => at_any h s
  generalize cosv s = y at i2 ⊢
  go_enter Tryz.func76, Tryz.ntmps76
  go_wp2_with (first | (go_at_call 100; (refine (i1).mono ?_); rintro e w1 ⟨v, rfl, hv, hb1⟩; have HV : Hid (Il w1 v 65 ct) := hv; clear hv) | (go_at_call 99; (refine (i2 _ _ HV.out).mono ?_); rintro e w' ⟨rfl, hw⟩; obtain rfl := hw.symm))
  go_ret
  exact ⟨rfl, hb1⟩

theorem sin_tmod (s : Int) : cosv (s.tmod 256 - 64) = sinv s := by
  refine cosv_congr ?_
  by_cases ht : s.tmod 256 < 0
  · have q := (tdiv_neg (show (1 : Int) ≤ 256 by decide) ht).2
    omega
  · have q := (tdiv_pos (show (1 : Int) ≤ 256 by decide) ht).2
    omega

theorem sSin_any (s : Int) (w : World) : Calls Tryz.prog 77 #[.int .i64 s] w fun e w' => e = .returned (.int .i64 (sinv s)) ∧ Below w.heap.size w w' := by
  have i1 := sCos_any (s.tmod 256 - 64)
  rw [sin_tmod] at i1
  have t1 := Int.tmod_lt_of_pos s (show (0 : Int) < 256 by decide)
  have t2 := Int.lt_tmod_of_pos s (show (0 : Int) < 256 by decide)
  generalize sinv s = y at i1 ⊢
  go_enter Tryz.func77, Tryz.ntmps77
  go_wp2_with (first | (go_at_call 76; (with_reducible refine (i1 _).mono ?_); rintro e w1 ⟨rfl, hb1⟩))
  go_ret
  exact ⟨rfl, hb1⟩

end Go.Proofs.YtddbekacdfohpaaGreatDoor.Wv

namespace Go.Proofs.YtddbekacdfohpaaGreatDoor
open Go.RowKit

/-- The library's table lies in memory as its text lays it. -/
structure Brj (w : World) : Prop where
  size : 1 < w.heap.size
  cells : ∀ i, i < 64 → w.cell? ⟨1, i, none⟩ = some (.int .u8 ((Lib.deBruijn64tab.getD i 0 : Nat) : Int))

theorem Brj.below {w w' : World} (h : Brj w) (hb : Below w.heap.size w w') : Brj w' :=
  ⟨Nat.lt_of_lt_of_le h.size hb.size, fun i hi => (hb.cell (p := ⟨1, i, none⟩) h.size).trans (h.cells i hi)⟩

set_option maxHeartbeats 1000000 in
theorem tz_walk (m a : Int) (j k : Nat) (w : World) (h0 : (m == 0) = false) (ha : bits .and .u64 m (IntKind.u64.wrap (-m)) = a)
    (hj : IntKind.u64.wrap (a * 285870213051353865) / 288230376151711744 = (j : Int)) (hj1 : (j : Int) < 64) (hk : (k : Int) < 64) (hc : w.cell? ⟨1, j, none⟩ = some (.int .u8 (k : Int))) :
    Calls Tryz.prog 56 #[.int .u64 m] w fun e w' => e = .returned (.int .i64 (k : Int)) ∧ w' = w := by
  go_enter Tryz.func56, Tryz.ntmps56
  go_wp2
  go_ret
  exact ⟨rfl, rfl⟩

theorem tz2 {j : Nat} (hj : j < 8) (w : World) (hb : Brj w) : Calls Tryz.prog 36 #[.int .u64 ((2 ^ j : Nat) : Int)] w fun e w' => e = .returned (.int .i64 (j : Int)) ∧ w' = w := by
  have key : Calls Tryz.prog 56 #[.int .u64 ((2 ^ j : Nat) : Int)] w fun e w' => e = .returned (.int .i64 (j : Int)) ∧ w' = w := by
    have h : ∀ j : Fin 8, ∃ i : Fin 64, bits .and .u64 ((2 ^ j.val : Nat) : Int) (IntKind.u64.wrap (-((2 ^ j.val : Nat) : Int))) = ((2 ^ j.val : Nat) : Int) ∧ IntKind.u64.wrap (((2 ^ j.val : Nat) : Int) * 285870213051353865) / 288230376151711744 = (i.val : Int) ∧ Lib.deBruijn64tab.getD i.val 0 = j.val := by decide +kernel
    obtain ⟨i, h1, h2, h3⟩ := h ⟨j, hj⟩
    have hc := hb.cells i.val i.isLt
    rw [h3] at hc
    exact tz_walk _ _ i.val j w (by rw [beq_eq_false_iff_ne]; have := Nat.two_pow_pos j; omega) h1 h2 (by have := i.isLt; omega) (by omega) hc
  generalize ((2 ^ j : Nat) : Int) = m at key ⊢
  go_enter Tryz.func36, Tryz.ntmps36
  go_wp2_with (go_at_call 56; refine key.mono ?_; rintro e w' ⟨rfl, hw⟩; obtain rfl := hw.symm)
  go_ret
  exact ⟨rfl, rfl⟩

/-- The parts of a turn. -/
def tre (s : Int) : Option Nat := cop .quo (cn (fk (Wv.cosv s))) (cn 4742290407621132288)
def tim (s : Int) : Option Nat := cop .quo (cn (fk (Wv.sinv s))) (cn 4742290407621132288)

theorem tre_congr {s t : Int} (h : s % 256 = t % 256) : tre s = tre t := by unfold tre; rw [Wv.cosv_congr h]
theorem tim_congr {s t : Int} (h : s % 256 = t % 256) : tim s = tim t := by unfold tim Wv.sinv; rw [Wv.cosv_congr (show (s - 64) % 256 = (t - 64) % 256 by omega)]

set_option maxHeartbeats 1000000 in
theorem turnOf_any (s : Int) (w : World) : Calls Tryz.prog 59 #[.int .i64 s] w fun e w' => ∃ x y, e = .returned (.complex .f64 x y) ∧ cn x = tre s ∧ cn y = tim s ∧ Below w.heap.size w w' := by
  have i1 := Wv.iCos_any s
  have i2 := Wv.iSin_any s
  have hQ := rQuo
  have T1 : Hid (tre s = cop .quo (cn (fk (Wv.cosv s))) (cn 4742290407621132288)) := rfl
  have T2 : Hid (tim s = cop .quo (cn (fk (Wv.sinv s))) (cn 4742290407621132288)) := rfl
  have b1 := Wv.cosv_bounds s
  have b2 := Wv.sinv_bounds s
  generalize Wv.cosv s = c at *
  generalize Wv.sinv s = q at *
  go_enter Tryz.func59, Tryz.ntmps59
  go_wp2_with (first | (go_at_call 74; (with_reducible refine (i1 _).mono ?_); rintro e w1 ⟨rfl, hb1⟩; have B1 : Hid (Below w.heap.size w w1) := hb1; clear hb1) | (go_at_call 75; (with_reducible refine (i2 _).mono ?_); rintro e w2 ⟨rfl, hb2⟩; have B2 : Hid (Below w.heap.size w w2) := bstep (below_fwor B1.out _ _ _) hb2; clear hb2))
  go_ret
  exact ⟨_, _, rfl, by rw [cn_fres, T1.out], by rw [cn_fres, T2.out], below_fwor B2.out _ _ _⟩

/-- The step from turn to turn of a length. -/
def strd (n : Nat) (bk : Bool) : Int := if bk then 256 / (n : Int) else -(256 / (n : Int))

/-- The slice holds the turns of a length, in a block of its own. -/
def Trn (w : World) (v : Value) (n : Nat) (bk : Bool) (g : Nat) : Prop := v = .slice (some ⟨g, 0, none⟩) n n ∧ g < w.heap.size ∧ ∃ X Y : Nat → Nat, ∀ k, k < n → w.cell? ⟨g, k, none⟩ = some (.complex .f64 (X k) (Y k)) ∧ cn (X k) = tre (k * strd n bk) ∧ cn (Y k) = tim (k * strd n bk)

theorem Trn.below {w w' : World} {v : Value} {n : Nat} {bk : Bool} {g : Nat} (h : Trn w v n bk g) (hb : Below w.heap.size w w') : Trn w' v n bk g := by
  obtain ⟨h0, hl, X, Y, h1⟩ := h
  exact ⟨h0, Nat.lt_of_lt_of_le hl hb.size, X, Y, fun k hk => ⟨(hb.cell (p := ⟨g, k, none⟩) hl).trans (h1 k hk).1, (h1 k hk).2⟩⟩

theorem Tryz.info87c : (Tryz.prog.info? 87).map (fun i => (i.zero, i.size, i.bytes)) = some (some (.complex .f64 0 0), 1, 16) := by kernel_rfl

/-- A row of complex numbers that the call made. -/
def Oz (W : World) (B g n cap : Nat) (X Y : Nat → Nat) : Prop := W.ownsRow B 87 1 (.slice (some ⟨g, 0, none⟩) n cap) n (czs X Y n)

theorem czs_length (X Y : Nat → Nat) (k : Nat) : (czs X Y k).length = k := by simp [czs]
theorem czs_get {X Y : Nat → Nat} {n k : Nat} (h : k < n) : (czs X Y n)[k]? = some (.complex .f64 (X k) (Y k)) := by simp [czs, h]
theorem czs_put (X Y : Nat → Nat) (n j x y : Nat) : (czs X Y n).set j (.complex .f64 x y) = czs (fun i => if i = j then x else X i) (fun i => if i = j then y else Y i) n := by
  apply List.ext_getElem
  · simp [czs]
  · intro i h1 h2
    simp only [czs, List.getElem_set, List.getElem_map, List.getElem_range]
    by_cases h : j = i
    · subst h; simp
    · simp [h, Ne.symm h]

theorem Oz.cell {W : World} {B g n cap : Nat} {X Y : Nat → Nat} (h : Oz W B g n cap X Y) {j : Nat} (hj : j < n) : W.cell? ⟨g, j, none⟩ = some (.complex .f64 (X j) (Y j)) := by
  rw [World.ownsRow.cellAt h j (by omega), czs_get hj]
theorem Oz.put {W : World} {B g n cap : Nat} {X Y : Nat → Nat} (h : Oz W B g n cap X Y) (j x y : Nat) : Oz (W.setCell ⟨g, j, none⟩ (.complex .f64 x y)) B g n cap (fun i => if i = j then x else X i) (fun i => if i = j then y else Y i) := by
  have := (World.ownsRow.stored h j (.complex .f64 x y)).1
  rw [czs_put] at this
  exact this
theorem Oz.fz {W : World} {B g n cap : Nat} {X Y : Nat → Nat} (h : Oz W B g n cap X Y) (hc : n ≤ cap) : Fz W (.slice (some ⟨g, 0, none⟩) n cap) n X Y :=
  ⟨_, cap, rfl, hc, fun _ => ⟨g, 0, rfl, (World.ownsRow.lt h _ rfl).2, fun k hk => by rw [Nat.zero_add]; exact h.cell hk⟩⟩

theorem made_czs (n : Nat) : (madeCells (Value.complex .f64 0 0).cells (n * 1)).toList = czs (fun _ => 0) (fun _ => 0) n := by
  apply List.ext_getElem?
  intro i
  by_cases h : i < n
  · rw [czs_get h]
    simp [madeCells, Value.cells, h, Nat.mod_one]
  · rw [List.getElem?_eq_none (by rw [Array.length_toList, size_madeCells]; omega), List.getElem?_eq_none (by rw [czs_length]; omega)]

theorem rStoreZ (a : Addr) (x y : Nat) (m : Mode) (w : World) : (store a (.complex .f64 x y) m).run Tryz.prog w = stored Tryz.prog w a (.complex .f64 x y) m := run_store Tryz.prog w a _ m rfl

theorem strd_bounds {n : Nat} (h0 : 1 ≤ n) (bk : Bool) : -256 ≤ strd n bk ∧ strd n bk ≤ 256 := by
  have h1 : (0 : Int) ≤ 256 / (n : Int) := Int.ediv_nonneg (by decide) (by omega)
  have h2 : (256 : Int) / (n : Int) ≤ 256 := Int.ediv_le_self _ (by decide)
  unfold strd
  split <;> omega

theorem tdiv_neg256 {n : Nat} (h : n = 1 ∨ n = 2 ∨ n = 4 ∨ n = 8 ∨ n = 16 ∨ n = 32 ∨ n = 64 ∨ n = 128) : (-256 : Int).tdiv (n : Int) = -(256 / (n : Int)) := by
  rcases h with rfl | rfl | rfl | rfl | rfl | rfl | rfl | rfl <;> decide

set_option maxRecDepth 20000 in
set_option maxHeartbeats 2000000 in
theorem turnsOf_any {n : Nat} (hn : n = 1 ∨ n = 2 ∨ n = 4 ∨ n = 8 ∨ n = 16 ∨ n = 32 ∨ n = 64 ∨ n = 128) (bk : Bool) (w : World) : Calls Tryz.prog 39 #[.int .i64 n, .bool bk] w fun e w' => ∃ v, e = .returned v ∧ Trn w' v n bk w.heap.size ∧ Below w.heap.size w w' := by
  have hn1 : 1 ≤ n ∧ n ≤ 128 := by omega
  obtain ⟨i0, hi, hz0, hz1, hz2⟩ := info_parts Tryz.info87c
  obtain ⟨w1, hm, hrow, hgr⟩ := run_makeSlice_full (P := Tryz.prog) w w.heap.size 50 87 i0 (.complex .f64 0 0) 1 Tryz.underlying50 hi hz0 hz1 .i64 .i64 n (by omega) (by rw [hz2]; omega) (by unfold maxLen; omega) (Nat.le_refl _)
  have hbl : Below w.heap.size w w1 := (Below.refl _ _).grown hgr (Nat.le_refl _) (fun _ h => by cases h)
  rw [made_czs] at hrow
  have HR : Hid (Oz w1 w.heap.size w.heap.size n n (fun _ => 0) (fun _ => 0)) := hrow
  have HB : Hid (Below w.heap.size w w1) := hbl
  clear hrow hbl hgr hi hz0 hz1 hz2
  have hd := tdiv_neg256 hn
  have hsb := strd_bounds (n := n) (by omega) bk
  have hq0 : (0 : Int) ≤ 256 / (n : Int) := Int.ediv_nonneg (by decide) (by omega)
  have hq1 : (256 : Int) / (n : Int) ≤ 256 := Int.ediv_le_self _ (by decide)
  have hST := rStoreZ
  obtain ⟨st, hst⟩ : ∃ st, st = strd n bk := ⟨_, rfl⟩
  have HST : Hid (st = strd n bk) := hst
  rw [← hst] at hsb
  have hloop : ∀ (x : Int), x = st → True := fun _ _ => trivial
  clear hn hloop
  cases bk
  · have hse : -(256 / (n : Int)) = st := by rw [hst]; rfl
    rw [hse] at hd
    clear hse hst
    go_enter Tryz.func39, Tryz.ntmps39
    go_wp2
    go_loopw [7, 16] (fun _ i wr => ∃ k : Nat, i = .int .i64 k ∧ k ≤ n ∧ Hid (∃ X Y, Oz wr w.heap.size w.heap.size n n X Y ∧ (∀ j, j < k → cn (X j) = tre (j * st) ∧ cn (Y j) = tim (j * st)) ∧ Below w.heap.size w wr)) (fun _ i _ => n - (intOf i).toNat)
    case atStart => exact ⟨0, rfl, by omega, fun _ => 0, fun _ => 0, HR.out, fun j hj => by omega, HB.out⟩
    case round =>
      obtain ⟨k, rfl, hk, hrel⟩ := hrel
      obtain ⟨X, Y, hown, hxy, hbl⟩ := hrel.out
      by_cases h1 : k < n
      · have i1 := turnOf_any ((k : Int) * st)
        have m1 : -32768 ≤ (k : Int) * st ∧ (k : Int) * st ≤ 32768 := by
          have h1 : ((k : Int) * st).natAbs ≤ 128 * 256 := by rw [Int.natAbs_mul]; exact Nat.mul_le_mul (by omega) (by omega)
          omega
        have HO : Hid (Oz wr w.heap.size w.heap.size n n X Y) := hown
        have HX : Hid (∀ j, j < k → cn (X j) = tre (j * st) ∧ cn (Y j) = tim (j * st)) := hxy
        have HBL : Hid (Below w.heap.size w wr) := hbl
        clear hrel hown hxy hbl
        go_wp2_with (go_at_call 59; refine (i1 _).mono ?_; rintro e w2 ⟨x, y, rfl, ex, ey, hb2⟩; have EX : Hid (cn x = tre (k * st) ∧ cn y = tim (k * st)) := ⟨ex, ey⟩; have o2 : Oz w2 w.heap.size w.heap.size n n X Y := own_below HO.out hb2; have d0 := o2.cell h1; have z0 := World.ownsRow.frozenAt o2 k; have OP : Hid _ := o2.put k x y; have B2 : Hid (Below w.heap.size w w2) := bstep HBL.out hb2; clear o2 hb2 ex ey)
        go_roundw
        case rel =>
          refine ⟨k + 1, by go_num, by omega, _, _, OP.out, fun j hj => ?_, B2.out.setCell (Nat.le_refl _) _⟩
          by_cases hjk : j = k
          · subst hjk
            rw [if_pos rfl, if_pos rfl]
            exact EX.out
          · rw [if_neg hjk, if_neg hjk]
            exact HX.out j (by omega)
        case measure => simp [intOf]; omega
      · obtain rfl : n = k := by omega
        have HO : Hid (Oz wr w.heap.size w.heap.size n n X Y) := hown
        have HX : Hid (∀ j, j < n → cn (X j) = tre (j * st) ∧ cn (Y j) = tim (j * st)) := hxy
        have HBL : Hid (Below w.heap.size w wr) := hbl
        clear hrel hown hxy hbl
        go_wp2
        go_ret
        exact ⟨_, rfl, ⟨rfl, (World.ownsRow.lt HO.out _ rfl).2, X, Y, fun k hk => ⟨HO.out.cell hk, by rw [← HST.out]; exact HX.out k hk⟩⟩, HBL.out⟩
  · have hse : 256 / (n : Int) = st := by rw [hst]; rfl
    rw [hse] at hd
    clear hse hst
    go_enter Tryz.func39, Tryz.ntmps39
    go_wp2
    go_loopw [7, 16] (fun _ i wr => ∃ k : Nat, i = .int .i64 k ∧ k ≤ n ∧ Hid (∃ X Y, Oz wr w.heap.size w.heap.size n n X Y ∧ (∀ j, j < k → cn (X j) = tre (j * st) ∧ cn (Y j) = tim (j * st)) ∧ Below w.heap.size w wr)) (fun _ i _ => n - (intOf i).toNat)
    case atStart => exact ⟨0, rfl, by omega, fun _ => 0, fun _ => 0, HR.out, fun j hj => by omega, HB.out⟩
    case round =>
      obtain ⟨k, rfl, hk, hrel⟩ := hrel
      obtain ⟨X, Y, hown, hxy, hbl⟩ := hrel.out
      by_cases h1 : k < n
      · have i1 := turnOf_any ((k : Int) * st)
        have m1 : -32768 ≤ (k : Int) * st ∧ (k : Int) * st ≤ 32768 := by
          have h1 : ((k : Int) * st).natAbs ≤ 128 * 256 := by rw [Int.natAbs_mul]; exact Nat.mul_le_mul (by omega) (by omega)
          omega
        have HO : Hid (Oz wr w.heap.size w.heap.size n n X Y) := hown
        have HX : Hid (∀ j, j < k → cn (X j) = tre (j * st) ∧ cn (Y j) = tim (j * st)) := hxy
        have HBL : Hid (Below w.heap.size w wr) := hbl
        clear hrel hown hxy hbl
        go_wp2_with (go_at_call 59; refine (i1 _).mono ?_; rintro e w2 ⟨x, y, rfl, ex, ey, hb2⟩; have EX : Hid (cn x = tre (k * st) ∧ cn y = tim (k * st)) := ⟨ex, ey⟩; have o2 : Oz w2 w.heap.size w.heap.size n n X Y := own_below HO.out hb2; have d0 := o2.cell h1; have z0 := World.ownsRow.frozenAt o2 k; have OP : Hid _ := o2.put k x y; have B2 : Hid (Below w.heap.size w w2) := bstep HBL.out hb2; clear o2 hb2 ex ey)
        go_roundw
        case rel =>
          refine ⟨k + 1, by go_num, by omega, _, _, OP.out, fun j hj => ?_, B2.out.setCell (Nat.le_refl _) _⟩
          by_cases hjk : j = k
          · subst hjk
            rw [if_pos rfl, if_pos rfl]
            exact EX.out
          · rw [if_neg hjk, if_neg hjk]
            exact HX.out j (by omega)
        case measure => simp [intOf]; omega
      · obtain rfl : n = k := by omega
        have HO : Hid (Oz wr w.heap.size w.heap.size n n X Y) := hown
        have HX : Hid (∀ j, j < n → cn (X j) = tre (j * st) ∧ cn (Y j) = tim (j * st)) := hxy
        have HBL : Hid (Below w.heap.size w wr) := hbl
        clear hrel hown hxy hbl
        go_wp2
        go_ret
        exact ⟨_, rfl, ⟨rfl, (World.ownsRow.lt HO.out _ rfl).2, X, Y, fun k hk => ⟨HO.out.cell hk, by rw [← HST.out]; exact HX.out k hk⟩⟩, HBL.out⟩
end Go.Proofs.YtddbekacdfohpaaGreatDoor
