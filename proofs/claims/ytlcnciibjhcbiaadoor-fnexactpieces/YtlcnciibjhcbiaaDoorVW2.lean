/- The model's cosines. -/
import Derived.Test.YtlcnciibjhcbiaaDoorVW1
import Derived.Test.YtlcnciibjhcbiaaDoorVI1
import Derived.Test.YtlcnciibjhcbiaaDoorVAP
import Derived.BigRegion
namespace Go.Proofs.YtlcnciibjhcbiaaDoor.Wv
open Go.RowKit

theorem own_two (w : World) (t : TypeId) (x y : Int) : (w.alloc (.cells #[.int .i64 x, .int .i64 y] t)).ownsRow w.heap.size t 1 (.slice (some ⟨w.heap.size, 0, none⟩) 2 2) 2 [.int .i64 x, .int .i64 y] :=
  ⟨by simp, .inr ⟨w.heap.size, 2, #[.int .i64 x, .int .i64 y], rfl, Nat.le_refl _, heap_alloc_new w _, Nat.le_refl _, by decide, by simp, by simp⟩⟩

theorem ct_1 : ct 1 = 1073418433 := by decide +kernel

/-- The rule, as the model has it. -/
theorem ct_rule {k : Nat} (h : 2 ≤ k) (h2 : k < 64) : rdV (2 * 1073418433 * ct (k - 1)) 1073741824 - ct (k - 2) = ct k := by
  have := ct_step (j := k - 1) (by omega)
  have e : pv (k - 1) = ct (k - 2) := by unfold pv; rw [if_neg (by omega)]; rfl
  rw [e, show k - 1 + 1 = k by omega] at this
  exact this

set_option maxRecDepth 20000 in
set_option maxHeartbeats 2000000 in
theorem all_any (w : World) : Calls Tryd.prog 54 #[] w fun e w' => ∃ v, e = .returned v ∧ Il w' v 65 ct ∧ Below w.heap.size w w' := by
  obtain ⟨i0, hi, hz0, hz1, hz2⟩ := info_parts Tryd.info3
  have o2 := own_two w 3 1073741824 1073418433
  have e2 : [Value.int .i64 1073741824, Value.int .i64 1073418433] = ils ct 2 := by
    show _ = [Value.int .i64 (ct 0), Value.int .i64 (ct 1)]
    rw [ct_0, ct_1]
  rw [e2] at o2
  have O2 : Hid _ := o2
  clear o2 e2
  have c1 := ct_1
  go_enter Tryd.func54, Tryd.ntmps54
  go_wp2
  go_loopw [1, 2] (fun o i wr => ∃ k : Nat, i = .int .i64 k ∧ 2 ≤ k ∧ k ≤ 64 ∧ Hid (wr.ownsRow w.heap.size 3 1 o k (ils ct k) ∧ Below w.heap.size w wr)) (fun _ i _ => 64 - (intOf i).toNat)
  case atStart => exact ⟨2, rfl, by omega, by omega, O2.out, below_one _ _⟩
  case round =>
    obtain ⟨k, rfl, hk2, hk, hrel⟩ := hrel
    obtain ⟨hrow, hbl⟩ := hrel.out
    have HO : Hid _ := hrow
    have HB : Hid (Below w.heap.size w wr) := hbl
    rcases hrow.2 with ⟨rfl, h0⟩ | ⟨g, cap, cur, rfl, hgb, hg, hcap, _⟩
    · omega
    by_cases h1 : k < 64
    · have d1 := World.ownsRow.cellAt HO.out 1 (by omega)
      have d2 := World.ownsRow.cellAt HO.out (k - 1) (by omega)
      have d3 := World.ownsRow.cellAt HO.out (k - 2) (by omega)
      rw [ils_get (by omega), ct_1] at d1
      rw [ils_get (by omega)] at d2 d3
      have b2 := ct_bounds (k - 1)
      have b3 := ct_bounds (k - 2)
      have i1 := sRound_any (2 * 1073418433 * ct (k - 1)) 1073741824
      have b4 := rd_bounds (j := k - 1) (by omega)
      have e4 := ct_rule hk2 h1
      have e5 : (2 * 1073418433 * ct (k - 1) : Int) = 2146836866 * ct (k - 1) := by omega
      rw [e5] at i1 e4
      generalize rdV (2146836866 * ct (k - 1)) 1073741824 = R at i1 b4 e4
      generalize ct (k - 1) = A at d2 b2 i1
      generalize ct (k - 2) = B at d3 b3 e4
      have hb3 : Below wr.heap.size wr (wr.alloc (.cells #[.int .i64 (ct k)] 3)).drew := (below_one wr _).drew
      have HO3 : Hid _ := own_below HO.out hb3
      have HB3 : Hid (Below w.heap.size w (wr.alloc (.cells #[.int .i64 (ct k)] 3)).drew) := bstep hbl hb3
      have keep : ∀ (X : World) (a : Addr) (v : Value), Below wr.heap.size wr X → wr.cell? a = some v → X.cell? a = some v := fun X a v hX h => (hX.cell (World.block_lt_of_cell? _ _ h)).trans h
      have l0 : Below w.heap.size w wr.drew ∧ wr.drew.cell? ⟨g, 1, none⟩ = some (.int .i64 1073418433) ∧ wr.drew.cell? ⟨g, k - 1, none⟩ = some (.int .i64 A) ∧ wr.drew.cell? ⟨g, k - 2, none⟩ = some (.int .i64 B) := ⟨hbl.drew, d1, d2, d3⟩
      have l1 : Below w.heap.size w (wr.alloc (.cells #[.int .i64 (ct k)] 3)).drew ∧ (wr.alloc (.cells #[.int .i64 (ct k)] 3)).drew.cell? ⟨g, 1, none⟩ = some (.int .i64 1073418433) ∧ (wr.alloc (.cells #[.int .i64 (ct k)] 3)).drew.cell? ⟨g, k - 1, none⟩ = some (.int .i64 A) ∧ (wr.alloc (.cells #[.int .i64 (ct k)] 3)).drew.cell? ⟨g, k - 2, none⟩ = some (.int .i64 B) := ⟨HB3.out, keep _ _ _ hb3 d1, keep _ _ _ hb3 d2, keep _ _ _ hb3 d3⟩
      clear keep hb3 d1 d2 d3
      go_upto_region 5 with fail
      refine wp_region_any (by kernel_rfl) ?_
      change wpAny _ _ _ _ _ _ _ (World.drew _)
      refine wpI_any (I := fun X => Below w.heap.size w X ∧ X.cell? ⟨g, 1, none⟩ = some (.int .i64 1073418433) ∧ X.cell? ⟨g, k - 1, none⟩ = some (.int .i64 A) ∧ X.cell? ⟨g, k - 2, none⟩ = some (.int .i64 B)) _ _ _ _ ?_
      refine wpI_take (i := 0) (v := ?_) rfl (by kernel_rfl) (by kernel_rfl) (by kernel_rfl) (fun _ _ _ h => h) ⟨by rfl, ?_⟩ ?_
      rotate_left
      · intro X hI; go_simp; try go_bits
        try rw [if_pos (by omega)]
        try with_reducible rfl
      refine wpI_take (i := 1) (v := ?_) rfl (by kernel_rfl) (by kernel_rfl) (by kernel_rfl) (fun _ _ _ h => h) ⟨by rfl, ?_⟩ ?_
      rotate_left
      · intro X hI; go_simp; try go_bits
        try rw [if_pos (by omega)]
        try with_reducible rfl
      refine wpI_take (i := 2) (v := ?_) rfl (by kernel_rfl) (by kernel_rfl) (by kernel_rfl) (fun _ _ _ h => h) ⟨by rfl, ?_⟩ ?_
      rotate_left
      · intro X hI; go_simp; try go_bits
        try rw [if_pos (by omega)]
        try with_reducible rfl
      refine wpI_take (i := 3) (v := ?_) rfl (by kernel_rfl) (by kernel_rfl) (by kernel_rfl) (fun _ _ _ h => h) ⟨by rfl, ?_⟩ ?_
      rotate_left
      · intro X hI; obtain ⟨_, q1, q2, q3⟩ := hI; go_simp; try go_bits
        try rw [if_pos (by omega)]
        try with_reducible rfl
      refine wpI_take (i := 4) (v := ?_) rfl (by kernel_rfl) (by kernel_rfl) (by kernel_rfl) (fun _ _ _ h => h) ⟨by rfl, ?_⟩ ?_
      rotate_left
      · intro X hI; go_simp; try go_bits
        try rw [if_pos (by omega)]
        try with_reducible rfl
      refine wpI_take (i := 5) (v := ?_) rfl (by kernel_rfl) (by kernel_rfl) (by kernel_rfl) (fun _ _ _ h => h) ⟨by rfl, ?_⟩ ?_
      rotate_left
      · intro X hI; go_simp; try go_bits
        try rw [if_pos (by omega)]
        try with_reducible rfl
      refine wpI_take (i := 6) (v := ?_) rfl (by kernel_rfl) (by kernel_rfl) (by kernel_rfl) (fun _ _ _ h => h) ⟨by rfl, ?_⟩ ?_
      rotate_left
      · intro X hI; go_simp; try go_bits
        try rw [if_pos (by omega)]
        try with_reducible rfl
      refine wpI_take (i := 7) (v := ?_) rfl (by kernel_rfl) (by kernel_rfl) (by kernel_rfl) (fun _ _ _ h => h) ⟨by rfl, ?_⟩ ?_
      rotate_left
      · intro X hI; go_simp; try go_bits
        try rw [if_pos (by omega)]
        try with_reducible rfl
      refine wpI_take (i := 8) (v := ?_) rfl (by kernel_rfl) (by kernel_rfl) (by kernel_rfl) (fun _ _ _ h => h) ⟨by rfl, ?_⟩ ?_
      rotate_left
      · intro X hI; go_simp; try go_bits
        try rw [if_pos (by omega)]
        try with_reducible rfl
      refine wpI_take (i := 9) (v := ?_) rfl (by kernel_rfl) (by kernel_rfl) (by kernel_rfl) (fun _ _ _ h => h) ⟨by rfl, ?_⟩ ?_
      rotate_left
      · intro X hI; obtain ⟨_, q1, q2, q3⟩ := hI; go_simp; try go_bits
        try rw [if_pos (by omega)]
        try with_reducible rfl
      refine wpI_take (i := 10) (v := ?_) rfl (by kernel_rfl) (by kernel_rfl) (by kernel_rfl) (fun _ _ _ h => h) ⟨by rfl, ?_⟩ ?_
      rotate_left
      · intro X hI; go_simp; try go_bits
        try rw [if_pos (by omega)]
        try with_reducible rfl
      refine wpI_take (i := 12) (v := ?_) rfl (by kernel_rfl) (by kernel_rfl) (by kernel_rfl) (fun _ _ _ h => h) ⟨by rfl, ?_⟩ ?_
      rotate_left
      · intro X hI; go_simp; try go_bits
        try rw [if_pos (by omega)]
        try with_reducible rfl
      refine wpI_take (i := 13) (v := ?_) rfl (by kernel_rfl) (by kernel_rfl) (by kernel_rfl) (fun _ _ _ h => h) ⟨by rfl, ?_⟩ ?_
      rotate_left
      · intro X hI; go_simp; try go_bits
        try rw [if_pos (by omega)]
        try with_reducible rfl
      refine wpI_take (i := 14) (v := ?_) rfl (by kernel_rfl) (by kernel_rfl) (by kernel_rfl) (fun _ _ _ h => h) ⟨by rfl, ?_⟩ ?_
      rotate_left
      · intro X hI; go_simp; try go_bits
        try rw [if_pos (by omega)]
        try with_reducible rfl
      refine wpI_take (i := 15) (v := ?_) rfl (by kernel_rfl) (by kernel_rfl) (by kernel_rfl) (fun _ _ _ h => h) ⟨by rfl, ?_⟩ ?_
      rotate_left
      · intro X hI; go_simp; try go_bits
        try rw [if_pos (by omega)]
        try with_reducible rfl
      refine wpI_take (i := 16) (v := ?_) rfl (by kernel_rfl) (by kernel_rfl) (by kernel_rfl) (fun _ _ _ h => h) ⟨by rfl, ?_⟩ ?_
      rotate_left
      · intro X hI; obtain ⟨_, q1, q2, q3⟩ := hI; go_simp; try go_bits
        try rw [if_pos (by omega)]
        try with_reducible rfl
      refine wpI_only (i := 11) rfl (by kernel_rfl) l0 (by rfl) ?_
      intro K hK
      go_simp
      go_wp2_with (go_at_call 60; (with_reducible refine (i1 _).mono ?_); rintro e w' ⟨rfl, hw⟩; obtain rfl := hw.symm)
      refine wpI_only (i := 17) rfl (by kernel_rfl) l0 (by rfl) ?_
      intro K hK
      go_simp
      try go_bits
      refine hK _ _ ?_
      refine wpI_only (i := 18) rfl (by kernel_rfl) l0 (by rfl) ?_
      intro K hK
      go_simp
      try go_bits
      refine hK _ _ ?_
      refine wpI_only (i := 19) rfl (by kernel_rfl) l1 (by rfl) ?_
      intro K hK
      refine wp_app _ _ _ 87 rfl w.heap.size 3 i0 (.int .i64 0) 1 8 Tryd.underlying87 hi hz0 hz1 hz2 rfl (by decide) _ _ _ rfl HO3.out ⟨wr.heap.size, 0, none⟩ 1 1 [.int .i64 (ct k)] rfl rfl (fun j u h => one_new wr _ 3 j u h) (by simp [Value.oneCell']) (by unfold maxLen; omega) (by omega) HB3.out.size (by decide) ?_
      intro v' w4 hown' hgrow hkeep
      have HB4 : Hid (Below w.heap.size w w4) := grown_below HB3.out (Nat.le_refl _) HO3.out hgrow
      have k1 := app_cell HO3.out hown' hkeep (j := 1) (by rw [ils_length]; omega)
      have k2 := app_cell HO3.out hown' hkeep (j := k - 1) (by rw [ils_length]; omega)
      have k3 := app_cell HO3.out hown' hkeep (j := k - 2) (by rw [ils_length]; omega)
      have l2 : Below w.heap.size w w4 ∧ w4.cell? ⟨g, 1, none⟩ = some (.int .i64 1073418433) ∧ w4.cell? ⟨g, k - 1, none⟩ = some (.int .i64 A) ∧ w4.cell? ⟨g, k - 2, none⟩ = some (.int .i64 B) := ⟨HB4.out, k1.trans l1.2.1, k2.trans l1.2.2.1, k3.trans l1.2.2.2⟩
      rw [← ils_snoc ct k] at hown'
      have HO4 : Hid (w4.ownsRow w.heap.size 3 1 v' (k + 1) (ils ct (k + 1))) := hown'
      clear hown' hgrow hkeep k1 k2 k3
      refine hK _ _ ?_
      refine wpI_only (i := 20) rfl (by kernel_rfl) l2 (by rfl) ?_
      intro K hK
      go_simp
      try go_bits
      refine hK _ _ ?_
      refine wpI_done l2 (by kernel_rfl) ?_ _
      clear l2
      go_wp2
      go_roundw
      case rel => exact ⟨k + 1, by go_num, by omega, by omega, HO4.out, HB4.out⟩
      case measure => simp [intOf]; omega
    · obtain rfl : k = 64 := by omega
      have hb3 := below_one wr (.cells #[.int .i64 0] 3)
      have HO3 := own_below HO.out hb3
      have HB3 := bstep HB.out hb3
      clear hb3
      go_wp2_with (first | (at_builtin; refine wpList_append_own _ rfl _ _ 87 rfl w.heap.size 3 i0 (.int .i64 0) 1 8 Tryd.underlying87 hi hz0 hz1 hz2 rfl (by decide) _ _ _ rfl HO3 ⟨wr.heap.size, 0, none⟩ 1 1 [.int .i64 0] rfl rfl (one_new _ _ _) (by simp [Value.oneCell']) (by unfold maxLen; omega) (by omega) HB3.size ?_))
      intro v' w4 hown' hgrow _
      have HB4 : Hid _ := grown_below HB3 (Nat.le_refl _) HO3 hgrow
      rw [← ct_end, ← ils_snoc ct 64] at hown'
      have HO4 : Hid (w4.ownsRow w.heap.size 3 1 v' 65 (ils ct 65)) := hown'
      clear hown' hgrow HB3 HO3
      go_wp2
      go_ret
      exact ⟨_, rfl, il_of_own HO4.out, HB4.out⟩
end Go.Proofs.YtlcnciibjhcbiaaDoor.Wv
