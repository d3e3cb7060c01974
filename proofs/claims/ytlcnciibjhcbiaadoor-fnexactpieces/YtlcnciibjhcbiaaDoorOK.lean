/- The model's turns; its division. -/
import Derived.Test.YtlcnciibjhcbiaaDoorOJ
import Derived.Test.YtlcnciibjhcbiaaDoorVAP
namespace Go.Proofs.YtlcnciibjhcbiaaDoor
open Go.RowKit

set_option maxRecDepth 100000 in
set_option maxHeartbeats 1000000 in
theorem sTurn_any (s : Int) (w : World) : Calls Tryd.prog 23 #[.int .i64 s] w fun e w' => ∃ x y, e = .returned (Pv x y) ∧ cn x = tre s ∧ cn y = tim s ∧ Below w.heap.size w w' := by
  have i1 := Wv.sCos_any s
  have i2 := Wv.sSin_any s
  have hQ := rQuo
  have hfc := fwor_cell
  have hff := fwor_frozen
  have hST := rStore
  have T1 : Hid (tre s = cop .quo (cn (fk (Wv.cosv s))) (cn 4742290407621132288)) := rfl
  have T2 : Hid (tim s = cop .quo (cn (fk (Wv.sinv s))) (cn 4742290407621132288)) := rfl
  have b1 := Wv.cosv_bounds s
  have b2 := Wv.sinv_bounds s
  generalize Wv.cosv s = c at *
  generalize Wv.sinv s = q at *
  have r0 := Rb.new w 0 0 40 (g := w.heap.size) rfl
  have R0 : Hid (Rb (w.alloc (.cells #[.float .f64 0, .float .f64 0] 40)) w.heap.size 0 0) := r0
  clear r0
  go_enter Tryd.func23, Tryd.ntmps23
  go_wp2_with (first | (go_at_call 40; (with_reducible refine (i1 _).mono ?_); rintro e w1 ⟨rfl, hb1⟩; have B1 : Hid (Below w.heap.size w w1) := bstep (below_one _ _) hb1; have R1 : Hid (Rb (fwor .quo w1 (fk c) 4742290407621132288) w.heap.size 0 0) := (R0.out.call hb1).fwor _ _ _; clear hb1) | (go_at_call 41; (with_reducible refine (i2 _).mono ?_); rintro e w2 ⟨rfl, hb2⟩; have B2 : Hid (Below w.heap.size w w2) := bstep (below_fwor B1.out _ _ _) hb2; have R2 : Hid (Rb (fwor .quo w2 (fk q) 4742290407621132288) w.heap.size 0 0) := (R1.out.call hb2).fwor _ _ _; obtain ⟨d0, d1, z0, z1⟩ := R1.out.call hb2; clear hb2))
  refine bodyPost_ret (v := Pv _ _) (by simp [results, Tryd.results23, fwor_cell, go_sem, d0, d1]; exact ⟨rfl, rfl⟩) rfl ⟨_, _, rfl, by rw [cn_fres, T1.out], by rw [cn_fres, T2.out], ?_⟩
  exact ((below_fwor B2.out _ _ _).setCell (Nat.le_refl _) _).setCell (Nat.le_refl _) _

/-- The sign of a turn. -/
def sgn (bk : Bool) : Int := if bk then 1 else -1

theorem sSgn_any (bk : Bool) (w : World) : Calls Tryd.prog 24 #[.bool bk] w fun e w' => e = .returned (.int .i64 (sgn bk)) ∧ w' = w := by
  cases bk
  · go_enter Tryd.func24, Tryd.ntmps24
    go_wp2
    go_ret
    exact ⟨rfl, rfl⟩
  · go_enter Tryd.func24, Tryd.ntmps24
    go_wp2
    go_ret
    exact ⟨rfl, rfl⟩

theorem sBy_no (v : Value) (w : World) : Calls Tryd.prog 25 #[v, .bool false] w fun e w' => e = .returned v ∧ w' = w := by
  have hnot : ∀ (x : Bool) (w : World), (Op.unary .not (.bool x)).run Tryd.prog w = .ok (.bool (!x)) w := fun _ _ => rfl
  go_enter Tryd.func25, Tryd.ntmps25
  go_wp2
  go_ret
  exact ⟨rfl, rfl⟩

set_option maxRecDepth 100000 in
set_option maxHeartbeats 4000000 in
theorem sBy_any {w : World} {v : Value} {n : Nat} {xs ys : Nat → Nat} (hv : Fp w v n xs ys) (hn : n ≤ 1048576) : Calls Tryd.prog 25 #[v, .bool true] w fun e w' => ∃ u X Y, e = .returned u ∧ Fp w' u n X Y ∧ (∀ i, i < n → cn (X i) = cop .quo (cn (xs i)) (cn (fk n)) ∧ cn (Y i) = cop .quo (cn (ys i)) (cn (fk n))) ∧ Below w.heap.size w w' := by
  obtain ⟨i0, hi, hz0, hz1, hz2⟩ := info_parts Tryd.info40
  obtain ⟨ao, cap, rfl, hcap, hc⟩ := hv
  have HC : Hid (0 < n → ∃ b off, ao = some ⟨b, off, none⟩ ∧ b < w.heap.size ∧ ∀ k, k < n → w.cell? ⟨b, off + k * 2, none⟩ = some (.float .f64 (xs k)) ∧ w.cell? ⟨b, off + k * 2 + 1, none⟩ = some (.float .f64 (ys k))) := hc
  clear hc
  have hST := rStore
  have hQ := rQuo
  have hnot : ∀ (x : Bool) (w : World), (Op.unary .not (.bool x)).run Tryd.prog w = .ok (.bool (!x)) w := fun _ _ => rfl
  have h0 : Hid ((w.alloc (.cells #[] 40)).ownsRow w.heap.size 40 2 (.slice (some ⟨w.heap.size, 0, none⟩) 0 0) 0 []) := own_empty w 40 2
  go_enter Tryd.func25, Tryd.ntmps25
  go_wp2
  go_loopw [6, 7] (fun o i wr => ∃ k : Nat, i = .int .i64 k ∧ k ≤ n ∧ Hid ((∃ PX PY, wr.ownsRow w.heap.size 40 2 o k (cl2 PX PY k) ∧ ∀ j, j < k → cn (PX j) = cop .quo (cn (xs j)) (cn (fk n)) ∧ cn (PY j) = cop .quo (cn (ys j)) (cn (fk n))) ∧ Below w.heap.size w wr)) (fun _ i _ => n - (intOf i).toNat)
  case atStart => exact ⟨0, rfl, by omega, ⟨fun _ => 0, fun _ => 0, h0.out, fun j hj => by omega⟩, below_one _ _⟩
  case round =>
    obtain ⟨k, rfl, hk, hrel⟩ := hrel
    obtain ⟨PX, PY, how, hpx⟩ := hrel.out.1
    have HPX : Hid (∀ j, j < k → cn (PX j) = cop .quo (cn (xs j)) (cn (fk n)) ∧ cn (PY j) = cop .quo (cn (ys j)) (cn (fk n))) := hpx
    have HBL : Hid (Below w.heap.size w wr) := hrel.out.2
    by_cases h1 : k < n
    · obtain ⟨b, off, rfl, hlt, hcell⟩ := HC.out (by omega)
      have own0 := own_below how (Below.refl _ wr).drew
      have hs : w.heap.size ≤ wr.heap.size := HBL.out.size
      have ra : ∀ X, Below w.heap.size wr X → X.cell? ⟨b, off + k * 2, none⟩ = some (.float .f64 (xs k)) ∧ X.cell? ⟨b, off + k * 2 + 1, none⟩ = some (.float .f64 (ys k)) := fun X hX => ⟨((HBL.out.trans hX).cell (p := ⟨b, off + k * 2, none⟩) hlt).trans (hcell k h1).1, ((HBL.out.trans hX).cell (p := ⟨b, off + k * 2 + 1, none⟩) hlt).trans (hcell k h1).2⟩
      have l0 : Below w.heap.size wr wr.drew := (Below.refl _ _).drew
      clear hrel how hpx hcell
      go_wp2
      refine wp_region_any (by kernel_rfl) ?_
      change wpAny _ _ _ _ _ _ _ (World.drew _)
      refine wpI_any (I := fun X => Below w.heap.size wr X) _ _ _ _ ?_
      refine wpI_take (i := 0) (v := ?_) rfl (by kernel_rfl) (by kernel_rfl) (by kernel_rfl) (fun _ _ _ h => h) ⟨by rfl, ?_⟩ ?_
      rotate_left
      · intro X hI; go_simp; try go_bits
        try rw [if_pos (by omega)]
        try with_reducible rfl
      refine wpI_take (i := 1) (v := ?_) rfl (by kernel_rfl) (by kernel_rfl) (by kernel_rfl) (fun _ _ _ h => h) ⟨by rfl, ?_⟩ ?_
      rotate_left
      · intro X hI; go_simp; try go_bits
        try rw [if_pos (by omega)]
        try with_reducible rfl
      refine wpI_take (i := 2) (v := ?_) rfl (by kernel_rfl) (by kernel_rfl) (by kernel_rfl) (fun _ _ _ h => h) ⟨by rfl, ?_⟩ ?_
      rotate_left
      · intro X hI; go_simp; try go_bits
        try rw [if_pos (by omega)]
        try with_reducible rfl
      refine wpI_take (i := 3) (v := ?_) rfl (by kernel_rfl) (by kernel_rfl) (by kernel_rfl) (fun _ _ _ h => h) ⟨by rfl, ?_⟩ ?_
      rotate_left
      · intro X hI; go_simp; try go_bits
        try rw [if_pos (by omega)]
        try with_reducible rfl
      refine wpI_take (i := 4) (v := ?_) rfl (by kernel_rfl) (by kernel_rfl) (by kernel_rfl) (fun _ _ _ h => h) ⟨by rfl, ?_⟩ ?_
      rotate_left
      · intro X hI; go_simp; try go_bits
        try rw [if_pos (by omega)]
        try with_reducible rfl
      refine wpI_take (i := 5) (v := ?_) rfl (by kernel_rfl) (by kernel_rfl) (by kernel_rfl) (fun _ _ _ h => h) ⟨by rfl, ?_⟩ ?_
      rotate_left
      · intro X hI; obtain ⟨c, c'⟩ := ra X hI; go_simp; try go_bits
        try rw [if_pos (by omega)]
        try with_reducible rfl
      refine wpI_take (i := 6) (v := ?_) rfl (by kernel_rfl) (by kernel_rfl) (by kernel_rfl) (fun _ _ _ h => h) ⟨by rfl, ?_⟩ ?_
      rotate_left
      · intro X hI; go_simp; try go_bits
        try rw [if_pos (by omega)]
        try with_reducible rfl
      refine wpI_take (i := 8) (v := ?_) rfl (by kernel_rfl) (by kernel_rfl) (by kernel_rfl) (fun _ _ _ h => h) ⟨by rfl, ?_⟩ ?_
      rotate_left
      · intro X hI; go_simp; try go_bits
        try rw [if_pos (by omega)]
        try with_reducible rfl
      refine wpI_take (i := 9) (v := ?_) rfl (by kernel_rfl) (by kernel_rfl) (by kernel_rfl) (fun _ _ _ h => h) ⟨by rfl, ?_⟩ ?_
      rotate_left
      · intro X hI; go_simp; try go_bits
        try rw [if_pos (by omega)]
        try with_reducible rfl
      refine wpI_take (i := 10) (v := ?_) rfl (by kernel_rfl) (by kernel_rfl) (by kernel_rfl) (fun _ _ _ h => h) ⟨by rfl, ?_⟩ ?_
      rotate_left
      · intro X hI; go_simp; try go_bits
        try rw [if_pos (by omega)]
        try with_reducible rfl
      refine wpI_take (i := 11) (v := ?_) rfl (by kernel_rfl) (by kernel_rfl) (by kernel_rfl) (fun _ _ _ h => h) ⟨by rfl, ?_⟩ ?_
      rotate_left
      · intro X hI; go_simp; try go_bits
        try rw [if_pos (by omega)]
        try with_reducible rfl
      refine wpI_take (i := 12) (v := ?_) rfl (by kernel_rfl) (by kernel_rfl) (by kernel_rfl) (fun _ _ _ h => h) ⟨by rfl, ?_⟩ ?_
      rotate_left
      · intro X hI; obtain ⟨c, c'⟩ := ra X hI; go_simp; try go_bits
        try rw [if_pos (by omega)]
        try with_reducible rfl
      refine wpI_take (i := 13) (v := ?_) rfl (by kernel_rfl) (by kernel_rfl) (by kernel_rfl) (fun _ _ _ h => h) ⟨by rfl, ?_⟩ ?_
      rotate_left
      · intro X hI; go_simp; try go_bits
        try rw [if_pos (by omega)]
        try with_reducible rfl
      generalize wr.drew = W0 at l0 own0 ⊢
      refine wpI_two (i := 7) (j := 14) rfl rfl (by kernel_rfl) l0 (by rfl) (by rfl) ?_ ?_
      · intro K hK
        have l1 : Below w.heap.size wr (fwor .quo W0 (xs k) (fk n)) := below_fwor l0 _ _ _
        have own1 := own_below own0 (below_fwor (Below.refl _ W0) .quo (xs k) (fk n))
        have e1 := cn_fres .quo W0 (xs k) (fk n)
        go_simp
        refine hK _ _ ?_
        clear hK K
        generalize fres .quo W0 (xs k) (fk n) = za at e1 ⊢
        generalize fwor .quo W0 (xs k) (fk n) = W1 at l1 own1 ⊢
        refine wpI_only (i := 14) rfl (by kernel_rfl) l1 (by rfl) ?_
        intro K hK
        have l2 : Below w.heap.size wr (fwor .quo W1 (ys k) (fk n)) := below_fwor l1 _ _ _
        have own2 := own_below own1 (below_fwor (Below.refl _ W1) .quo (ys k) (fk n))
        have e2 := cn_fres .quo W1 (ys k) (fk n)
        go_simp
        refine hK _ _ ?_
        clear hK K
        generalize fres .quo W1 (ys k) (fk n) = zb at e2 ⊢
        generalize fwor .quo W1 (ys k) (fk n) = W2 at l2 own2 ⊢
        refine wpI_only (i := 15) rfl (by kernel_rfl) l2 (by rfl) ?_
        intro K hK
        go_simp
        refine hK _ _ ?_
        clear hK K
        have l4 := l2.alloc (Nat.le_trans hs l2.size) (.cells #[.float .f64 za, .float .f64 zb] 40)
        have own4 := own_below own2 (below_one _ (.cells #[.float .f64 za, .float .f64 zb] 40))
        refine wpI_only (i := 16) rfl (by kernel_rfl) l2 (by rfl) ?_
        intro K hK
        go_simp
        refine hK _ _ ?_
        clear hK K
        refine wpI_only (i := 17) rfl (by kernel_rfl) l4 (by rfl) ?_
        intro K hK
        refine wp_append_own _ _ _ 24 rfl w.heap.size 40 i0 (.agg #[.float .f64 0, .float .f64 0]) 2 16 Tryd.underlying24 hi hz0 hz1 hz2 rfl (by decide) _ _ _ rfl own4 ⟨W2.heap.size, 0, none⟩ 1 1 [.float .f64 za, .float .f64 zb] rfl rfl (two_new _ _ _ _) (by simp [Value.oneCell']) (by unfold maxLen; omega) (by omega) (Nat.le_trans hs l4.size) ?_
        intro v' w5 hown' hgrow _
        have l5 := l4.grown hgrow (Nat.le_trans hs l4.size) (fun z hz => (World.ownsRow.lt own4 z hz).1)
        refine hK _ _ ?_
        clear hK K
        refine wpI_only (i := 18) rfl (by kernel_rfl) l5 (by rfl) ?_
        intro K hK
        go_simp
        refine hK _ _ ?_
        clear hK K
        refine wpI_done l5 (by kernel_rfl) ?_ _
        rw [cl2_snoc] at hown'
        have HO5 : Hid (w5.ownsRow w.heap.size 40 2 v' (k + 1) (cl2 (fun i => if i = k then za else PX i) (fun i => if i = k then zb else PY i) (k + 1))) := hown'
        have HB5 : Hid (Below w.heap.size w w5) := HBL.out.trans l5
        have E1 : Hid (cn za = cop .quo (cn (xs k)) (cn (fk n)) ∧ cn zb = cop .quo (cn (ys k)) (cn (fk n))) := ⟨e1, e2⟩
        clear hown' hgrow own4 own2 l5 l4 l2
        go_wp2
        go_roundw
        case rel =>
          refine ⟨k + 1, by go_num, by omega, ⟨_, _, HO5.out, fun j hj => ?_⟩, HB5.out⟩
          by_cases hjq : j = k
          · subst hjq
            simp only [if_pos]
            exact E1.out
          · simp only [if_neg hjq]
            exact HPX.out j (by omega)
        case measure => simp [intOf]; omega
      · intro K hK
        have l1 : Below w.heap.size wr (fwor .quo W0 (ys k) (fk n)) := below_fwor l0 _ _ _
        have own1 := own_below own0 (below_fwor (Below.refl _ W0) .quo (ys k) (fk n))
        have e2 := cn_fres .quo W0 (ys k) (fk n)
        go_simp
        refine hK _ _ ?_
        clear hK K
        generalize fres .quo W0 (ys k) (fk n) = zb at e2 ⊢
        generalize fwor .quo W0 (ys k) (fk n) = W1 at l1 own1 ⊢
        refine wpI_only (i := 7) rfl (by kernel_rfl) l1 (by rfl) ?_
        intro K hK
        have l2 : Below w.heap.size wr (fwor .quo W1 (xs k) (fk n)) := below_fwor l1 _ _ _
        have own2 := own_below own1 (below_fwor (Below.refl _ W1) .quo (xs k) (fk n))
        have e1 := cn_fres .quo W1 (xs k) (fk n)
        go_simp
        refine hK _ _ ?_
        clear hK K
        generalize fres .quo W1 (xs k) (fk n) = za at e1 ⊢
        generalize fwor .quo W1 (xs k) (fk n) = W2 at l2 own2 ⊢
        refine wpI_only (i := 15) rfl (by kernel_rfl) l2 (by rfl) ?_
        intro K hK
        go_simp
        refine hK _ _ ?_
        clear hK K
        have l4 := l2.alloc (Nat.le_trans hs l2.size) (.cells #[.float .f64 za, .float .f64 zb] 40)
        have own4 := own_below own2 (below_one _ (.cells #[.float .f64 za, .float .f64 zb] 40))
        refine wpI_only (i := 16) rfl (by kernel_rfl) l2 (by rfl) ?_
        intro K hK
        go_simp
        refine hK _ _ ?_
        clear hK K
        refine wpI_only (i := 17) rfl (by kernel_rfl) l4 (by rfl) ?_
        intro K hK
        refine wp_append_own _ _ _ 24 rfl w.heap.size 40 i0 (.agg #[.float .f64 0, .float .f64 0]) 2 16 Tryd.underlying24 hi hz0 hz1 hz2 rfl (by decide) _ _ _ rfl own4 ⟨W2.heap.size, 0, none⟩ 1 1 [.float .f64 za, .float .f64 zb] rfl rfl (two_new _ _ _ _) (by simp [Value.oneCell']) (by unfold maxLen; omega) (by omega) (Nat.le_trans hs l4.size) ?_
        intro v' w5 hown' hgrow _
        have l5 := l4.grown hgrow (Nat.le_trans hs l4.size) (fun z hz => (World.ownsRow.lt own4 z hz).1)
        refine hK _ _ ?_
        clear hK K
        refine wpI_only (i := 18) rfl (by kernel_rfl) l5 (by rfl) ?_
        intro K hK
        go_simp
        refine hK _ _ ?_
        clear hK K
        refine wpI_done l5 (by kernel_rfl) ?_ _
        rw [cl2_snoc] at hown'
        have HO5 : Hid (w5.ownsRow w.heap.size 40 2 v' (k + 1) (cl2 (fun i => if i = k then za else PX i) (fun i => if i = k then zb else PY i) (k + 1))) := hown'
        have HB5 : Hid (Below w.heap.size w w5) := HBL.out.trans l5
        have E1 : Hid (cn za = cop .quo (cn (xs k)) (cn (fk n)) ∧ cn zb = cop .quo (cn (ys k)) (cn (fk n))) := ⟨e1, e2⟩
        clear hown' hgrow own4 own2 l5 l4 l2
        go_wp2
        go_roundw
        case rel =>
          refine ⟨k + 1, by go_num, by omega, ⟨_, _, HO5.out, fun j hj => ?_⟩, HB5.out⟩
          by_cases hjq : j = k
          · subst hjq
            simp only [if_pos]
            exact E1.out
          · simp only [if_neg hjq]
            exact HPX.out j (by omega)
        case measure => simp [intOf]; omega
    · obtain rfl : n = k := by omega
      have HF : Hid (Fp wr _ n PX PY) := fp_of_own how
      clear hrel how hpx
      obtain ⟨oa, oc, rfl, _⟩ := HF.out
      go_wp2
      go_ret
      exact ⟨_, PX, PY, rfl, HF.out, HPX.out, HBL.out⟩
end Go.Proofs.YtlcnciibjhcbiaaDoor
