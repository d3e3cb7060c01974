/- RootsTo: the model's. -/
import Derived.Test.YtainkpnkekombaaT2
namespace Go.Proofs.Ytainkpnkekombaa
open Go.RowKit

theorem fp_one (w : World) (x y : Nat) : Fp (w.alloc (.cells #[.float .f64 x, .float .f64 y] 27)) (.slice (some ⟨w.heap.size, 0, none⟩) 1 1) 1 (fun _ => x) (fun _ => y) :=
  ⟨_, 1, rfl, Nat.le_refl _, fun _ => ⟨w.heap.size, 0, rfl, by simp, fun k hk => (by
    obtain rfl : k = 0 := by omega
    simp)⟩⟩

set_option maxHeartbeats 1600000 in
set_option maxRecDepth 10000 in
theorem sRoots_any {w : World} {v : Value} {n : Nat} {xs ys : Nat → Nat} (hv : Fp w v n xs ys) (hn : n ≤ 127) :
    Calls Try.prog 12 #[v] w fun e w' => ∃ v' X Y, e = .returned v' ∧ Fp w' v' (n + 1) X Y ∧ (∀ j, j < n + 1 → cn (X j) = (croot xs ys n j).1 ∧ cn (Y j) = (croot xs ys n j).2) ∧ Below w.heap.size w w' := by
  obtain ⟨i0, hi, hz0, hz1, hz2⟩ := info_parts Try.info27
  obtain ⟨ao, cap, rfl, hcap, hc⟩ := hv
  have HC : Hid _ := hc
  clear hc
  have hST := rStore
  go_enter Try.func12, Try.ntmps12
  go_wp2
  go_loopw [3, 4] (fun o i wr => ∃ (k : Nat) (oo : Option Addr) (oc : Nat), i = .int .i64 k ∧ k ≤ n ∧ o = .slice oo (k + 1) oc ∧ Hid ((∃ X Y, Fp wr (.slice oo (k + 1) oc) (k + 1) X Y ∧ ∀ j, j < k + 1 → cn (X j) = (croot xs ys k j).1 ∧ cn (Y j) = (croot xs ys k j).2) ∧ Below w.heap.size w wr)) (fun _ i _ => n - (intOf i).toNat)
  case atStart => exact ⟨0, _, _, rfl, by omega, rfl, ⟨fun _ => 4607182418800017408, fun _ => 0, fp_one w 4607182418800017408 0, fun j hj => by obtain rfl : j = 0 := (by omega); exact ⟨cn_one, cn_zero⟩⟩, below_one _ _⟩
  case round =>
    obtain ⟨k, oo, oc, rfl, hk, rfl, hrel⟩ := hrel
    by_cases h1 : k < n
    · obtain ⟨X, Y, hfo, hcx⟩ := hrel.out.1
      obtain ⟨oo', oc', he, hoc, hco⟩ := hfo
      cases he
      have HCO : Hid _ := hco
      have HCX : Hid _ := hcx
      have HBo : Hid _ := hrel.out.2
      clear hcx hrel hco
      rename World => wo
      go_wp2
      go_loopw [5, 6] (fun nx kk wr => ∃ q : Nat, kk = .int .i64 q ∧ q ≤ k + 1 ∧ Hid ((∃ PX PY, wr.ownsRow wo.heap.size 27 2 nx q (cl2 PX PY q) ∧ ∀ j, j < q → cn (PX j) = (cnext (cn (xs k)) (cn (ys k)) (croot xs ys k) j).1 ∧ cn (PY j) = (cnext (cn (xs k)) (cn (ys k)) (croot xs ys k) j).2) ∧ Below wo.heap.size wo wr)) (fun _ kk _ => k + 1 - (intOf kk).toNat)
      case atStart => exact ⟨0, rfl, by omega, ⟨fun _ => 0, fun _ => 0, own_empty wo 27 2, fun j hj => by omega⟩, below_one _ _⟩
      case round =>
        obtain ⟨q, rfl, hq, hrel⟩ := hrel
        obtain ⟨PX, PY, how, hpx⟩ := hrel.out.1
        have HOW : Hid _ := how
        have HPX : Hid _ := hpx
        have HB2 : Hid _ := hrel.out.2
        clear how hpx hrel
        by_cases h2 : q < k + 1
        · obtain ⟨b, off, rfl, hlt, hcell⟩ := HC.out (by omega)
          obtain ⟨b2, off2, rfl, hlt2, hcell2⟩ := HCO.out (by omega)
          have ra : ∀ X', Below w.heap.size w X' → X'.cell? ⟨b, off + k * 2, none⟩ = some (.float .f64 (xs k)) ∧ X'.cell? ⟨b, off + k * 2 + 1, none⟩ = some (.float .f64 (ys k)) := fun X' hX => ⟨(hX.cell (p := ⟨b, off + k * 2, none⟩) hlt).trans (hcell k h1).1, (hX.cell (p := ⟨b, off + k * 2 + 1, none⟩) hlt).trans (hcell k h1).2⟩
          have rB : ∀ j, j < k + 1 → ∀ X', Below wo.heap.size wo X' → X'.cell? ⟨b2, off2 + j * 2, none⟩ = some (.float .f64 (X j)) ∧ X'.cell? ⟨b2, off2 + j * 2 + 1, none⟩ = some (.float .f64 (Y j)) := fun j hj X' hX => ⟨(hX.cell (p := ⟨b2, off2 + j * 2, none⟩) hlt2).trans (hcell2 j hj).1, (hX.cell (p := ⟨b2, off2 + j * 2 + 1, none⟩) hlt2).trans (hcell2 j hj).2⟩
          have rb := rB q h2
          by_cases hq0 : ¬ 0 < q
          · clear rB hcell hcell2
            go_upto_region 14 with fail
            have gd := (Rb.new wr 0 0 27 rfl).drew
            have own0 := own_below (own_below HOW.out (below_one _ (.cells #[.float .f64 0, .float .f64 0] 27))) (Below.refl _ _).drew
            have hBW : Below w.heap.size w (wr.alloc (.cells #[.float .f64 0, .float .f64 0] 27)) := bstep (bstep HBo.out HB2.out) (below_one _ _)
            have hBo : Below wo.heap.size wo (wr.alloc (.cells #[.float .f64 0, .float .f64 0] 27)) := bstep HB2.out (below_one _ _)
            have hBle : w.heap.size ≤ wo.heap.size := HBo.out.size
            have hs : wo.heap.size ≤ (wr.alloc (.cells #[.float .f64 0, .float .f64 0] 27)).heap.size := hBo.size
            generalize (wr.alloc (.cells #[.float .f64 0, .float .f64 0] 27)) = W at *
            have l0 : Below wo.heap.size W W.drew := (Below.refl _ _).drew
            refine wp_region_any (by kernel_rfl) ?_
            change wpAny _ _ _ _ _ _ _ (World.drew _)
            refine wpI_any (I := fun X => Below wo.heap.size W X) _ _ _ _ ?_
            refine wpI_take (i := 0) (v := ?_) rfl (by kernel_rfl) (by kernel_rfl) (by kernel_rfl) (fun _ _ _ h => h) ⟨by rfl, ?_⟩ ?_
            rotate_left
            · intro X hI; go_simp; with_reducible rfl
            refine wpI_take (i := 2) (v := ?_) rfl (by kernel_rfl) (by kernel_rfl) (by kernel_rfl) (fun _ _ _ h => h) ⟨by rfl, ?_⟩ ?_
            rotate_left
            · intro X hI; go_simp; with_reducible rfl
            refine wpI_take (i := 3) (v := ?_) rfl (by kernel_rfl) (by kernel_rfl) (by kernel_rfl) (fun _ _ _ h => h) ⟨by rfl, ?_⟩ ?_
            rotate_left
            · intro X hI; go_simp; with_reducible rfl
            refine wpI_take (i := 4) (v := ?_) rfl (by kernel_rfl) (by kernel_rfl) (by kernel_rfl) (fun _ _ _ h => h) ⟨by rfl, ?_⟩ ?_
            rotate_left
            · intro X hI; go_simp; with_reducible rfl
            refine wpI_take (i := 5) (v := ?_) rfl (by kernel_rfl) (by kernel_rfl) (by kernel_rfl) (fun _ _ _ h => h) ⟨by rfl, ?_⟩ ?_
            rotate_left
            · intro X hI; obtain ⟨c0, c1⟩ := ra X (hBW.trans (hI.mono hBle)); go_simp; with_reducible rfl
            refine wpI_take (i := 6) (v := ?_) rfl (by kernel_rfl) (by kernel_rfl) (by kernel_rfl) (fun _ _ _ h => h) ⟨by rfl, ?_⟩ ?_
            rotate_left
            · intro X hI; go_simp; with_reducible rfl
            refine wpI_take (i := 7) (v := ?_) rfl (by kernel_rfl) (by kernel_rfl) (by kernel_rfl) (fun _ _ _ h => h) ⟨by rfl, ?_⟩ ?_
            rotate_left
            · intro X hI; go_simp; with_reducible rfl
            refine wpI_take (i := 8) (v := ?_) rfl (by kernel_rfl) (by kernel_rfl) (by kernel_rfl) (fun _ _ _ h => h) ⟨by rfl, ?_⟩ ?_
            rotate_left
            · intro X hI; go_simp; with_reducible rfl
            refine wpI_take (i := 9) (v := ?_) rfl (by kernel_rfl) (by kernel_rfl) (by kernel_rfl) (fun _ _ _ h => h) ⟨by rfl, ?_⟩ ?_
            rotate_left
            · intro X hI; obtain ⟨c0, c1⟩ := rb X (hBo.trans hI); go_simp; with_reducible rfl
            refine wpI_two (i := 1) (j := 10) rfl rfl (by kernel_rfl) l0 (by rfl) (by rfl) ?_ ?_
            · intro K hK
              have l1 := l0
              have c0 := gd.c0
              have c1 := gd.c1
              go_simp
              refine hK _ _ ?_
              refine wpI_only (i := 10) rfl (by kernel_rfl) l1 (by rfl) ?_
              intro K hK
              go_simp
              go_wp2_with (go_at_call 17; refine (sMul_any _ _ _ _ _).mono ?_; rintro e x10 ⟨m1, m2, rfl, em1, em2, hb10⟩; have l2 := bgo l1 hs hb10; have gd_ := gd.call hb10)
              have own2 := own_below own0 hb10
              refine wpI_only (i := 11) rfl (by kernel_rfl) l2 (by rfl) ?_
              intro K hK
              go_simp
              go_wp2_with (go_at_call 24; refine (sSub_any _ _ _ _ _).mono ?_; rintro e x11 ⟨d1, d2, rfl, ed1, ed2, hb11⟩; have l3 := bgo l2 hs hb11; have gd__ := gd_.call hb11)
              have own3 := own_below own2 hb11
              refine wpI_only (i := 12) rfl (by kernel_rfl) l3 (by rfl) ?_
              intro K hK
              have l4 := l3.alloc (Nat.le_trans hs l3.size) (.cells #[.float .f64 d1, .float .f64 d2] 27)
              have own4 := own_below own3 (below_one _ (.cells #[.float .f64 d1, .float .f64 d2] 27))
              go_simp
              refine hK _ _ ?_
              refine wpI_only (i := 13) rfl (by kernel_rfl) l4 (by rfl) ?_
              intro K hK
              refine wp_append_own _ _ _ 29 rfl wo.heap.size 27 i0 (.agg #[.float .f64 0, .float .f64 0]) 2 16 Try.underlying29 hi hz0 hz1 hz2 rfl (by decide) _ _ _ rfl own4 ⟨x11.heap.size, 0, none⟩ 1 1 [.float .f64 d1, .float .f64 d2] rfl rfl (two_new _ _ _ _) (by simp [Value.oneCell']) (by unfold maxLen; omega) (by omega) (Nat.le_trans hs l4.size) ?_
              intro v' w5 hown' hgrow _
              have l5 := l4.grown hgrow (Nat.le_trans hs l4.size) (fun z hz => (World.ownsRow.lt own4 z hz).1)
              refine hK _ _ ?_
              refine wpI_only (i := 14) rfl (by kernel_rfl) l5 (by rfl) ?_
              intro K hK
              have l6 := l5
              go_simp
              have gd___ := gd__
              refine hK _ _ ?_
              refine wpI_done l6 (by kernel_rfl) ?_ _
              rw [cl2_snoc] at hown'
              have HO5 : Hid _ := hown'
              have HB5 : Hid _ := hBo.trans l6
              have E1 : Hid _ := And.intro ed1 em1
              have E2 : Hid _ := And.intro ed2 em2
              clear hown' hgrow
              go_wp2
              go_roundw
              case rel =>
                refine ⟨q + 1, by go_num, by omega, ⟨_, _, HO5.out, fun j hj => ?_⟩, HB5.out⟩
                by_cases hjq : j = q
                · subst hjq
                  simp only [if_pos, E1.out.1, E1.out.2, E2.out.1, E2.out.2, (HCX.out j (by omega)).1, (HCX.out j (by omega)).2, cnext]
                  obtain rfl : j = 0 := by omega
                  simp [cn_zero]
                · simp only [if_neg hjq]
                  exact HPX.out j (by omega)
              case measure => simp [intOf]; omega
            · intro K hK
              go_simp
              go_wp2_with (go_at_call 17; refine (sMul_any _ _ _ _ _).mono ?_; rintro e x10 ⟨m1, m2, rfl, em1, em2, hb10⟩; have l1 := bgo l0 hs hb10; have gd_ := gd.call hb10)
              have own1 := own_below own0 hb10
              refine wpI_only (i := 1) rfl (by kernel_rfl) l1 (by rfl) ?_
              intro K hK
              have l2 := l1
              have c0 := gd_.c0
              have c1 := gd_.c1
              go_simp
              refine hK _ _ ?_
              refine wpI_only (i := 11) rfl (by kernel_rfl) l2 (by rfl) ?_
              intro K hK
              go_simp
              go_wp2_with (go_at_call 24; refine (sSub_any _ _ _ _ _).mono ?_; rintro e x11 ⟨d1, d2, rfl, ed1, ed2, hb11⟩; have l3 := bgo l2 hs hb11; have gd__ := gd_.call hb11)
              have own3 := own_below own1 hb11
              refine wpI_only (i := 12) rfl (by kernel_rfl) l3 (by rfl) ?_
              intro K hK
              have l4 := l3.alloc (Nat.le_trans hs l3.size) (.cells #[.float .f64 d1, .float .f64 d2] 27)
              have own4 := own_below own3 (below_one _ (.cells #[.float .f64 d1, .float .f64 d2] 27))
              go_simp
              refine hK _ _ ?_
              refine wpI_only (i := 13) rfl (by kernel_rfl) l4 (by rfl) ?_
              intro K hK
              refine wp_append_own _ _ _ 29 rfl wo.heap.size 27 i0 (.agg #[.float .f64 0, .float .f64 0]) 2 16 Try.underlying29 hi hz0 hz1 hz2 rfl (by decide) _ _ _ rfl own4 ⟨x11.heap.size, 0, none⟩ 1 1 [.float .f64 d1, .float .f64 d2] rfl rfl (two_new _ _ _ _) (by simp [Value.oneCell']) (by unfold maxLen; omega) (by omega) (Nat.le_trans hs l4.size) ?_
              intro v' w5 hown' hgrow _
              have l5 := l4.grown hgrow (Nat.le_trans hs l4.size) (fun z hz => (World.ownsRow.lt own4 z hz).1)
              refine hK _ _ ?_
              refine wpI_only (i := 14) rfl (by kernel_rfl) l5 (by rfl) ?_
              intro K hK
              have l6 := l5
              go_simp
              have gd___ := gd__
              refine hK _ _ ?_
              refine wpI_done l6 (by kernel_rfl) ?_ _
              rw [cl2_snoc] at hown'
              have HO5 : Hid _ := hown'
              have HB5 : Hid _ := hBo.trans l6
              have E1 : Hid _ := And.intro ed1 em1
              have E2 : Hid _ := And.intro ed2 em2
              clear hown' hgrow
              go_wp2
              go_roundw
              case rel =>
                refine ⟨q + 1, by go_num, by omega, ⟨_, _, HO5.out, fun j hj => ?_⟩, HB5.out⟩
                by_cases hjq : j = q
                · subst hjq
                  simp only [if_pos, E1.out.1, E1.out.2, E2.out.1, E2.out.2, (HCX.out j (by omega)).1, (HCX.out j (by omega)).2, cnext]
                  obtain rfl : j = 0 := by omega
                  simp [cn_zero]
                · simp only [if_neg hjq]
                  exact HPX.out j (by omega)
              case measure => simp [intOf]; omega
          · obtain ⟨c0, c1⟩ := rB (q - 1) (by omega) (wr.alloc (.cells #[.float .f64 0, .float .f64 0] 27)) (bstep HB2.out (below_one _ _))
            have hqi : (q : Int) - 1 < k + 1 := by omega
            clear rB hcell hcell2
            go_upto_region 14 with fail
            clear c0 c1 hqi
            have gd := (Rb.new wr (X (q - 1)) (Y (q - 1)) 27 rfl).drew
            have own0 := own_below (own_below HOW.out (below_one _ (.cells #[.float .f64 (X (q - 1)), .float .f64 (Y (q - 1))] 27))) (Below.refl _ _).drew
            have hBW : Below w.heap.size w (wr.alloc (.cells #[.float .f64 (X (q - 1)), .float .f64 (Y (q - 1))] 27)) := bstep (bstep HBo.out HB2.out) (below_one _ _)
            have hBo : Below wo.heap.size wo (wr.alloc (.cells #[.float .f64 (X (q - 1)), .float .f64 (Y (q - 1))] 27)) := bstep HB2.out (below_one _ _)
            have hBle : w.heap.size ≤ wo.heap.size := HBo.out.size
            have hs : wo.heap.size ≤ (wr.alloc (.cells #[.float .f64 (X (q - 1)), .float .f64 (Y (q - 1))] 27)).heap.size := hBo.size
            generalize (wr.alloc (.cells #[.float .f64 (X (q - 1)), .float .f64 (Y (q - 1))] 27)) = W at *
            have l0 : Below wo.heap.size W W.drew := (Below.refl _ _).drew
            refine wp_region_any (by kernel_rfl) ?_
            change wpAny _ _ _ _ _ _ _ (World.drew _)
            refine wpI_any (I := fun X => Below wo.heap.size W X) _ _ _ _ ?_
            refine wpI_take (i := 0) (v := ?_) rfl (by kernel_rfl) (by kernel_rfl) (by kernel_rfl) (fun _ _ _ h => h) ⟨by rfl, ?_⟩ ?_
            rotate_left
            · intro X hI; go_simp; with_reducible rfl
            refine wpI_take (i := 2) (v := ?_) rfl (by kernel_rfl) (by kernel_rfl) (by kernel_rfl) (fun _ _ _ h => h) ⟨by rfl, ?_⟩ ?_
            rotate_left
            · intro X hI; go_simp; with_reducible rfl
            refine wpI_take (i := 3) (v := ?_) rfl (by kernel_rfl) (by kernel_rfl) (by kernel_rfl) (fun _ _ _ h => h) ⟨by rfl, ?_⟩ ?_
            rotate_left
            · intro X hI; go_simp; with_reducible rfl
            refine wpI_take (i := 4) (v := ?_) rfl (by kernel_rfl) (by kernel_rfl) (by kernel_rfl) (fun _ _ _ h => h) ⟨by rfl, ?_⟩ ?_
            rotate_left
            · intro X hI; go_simp; with_reducible rfl
            refine wpI_take (i := 5) (v := ?_) rfl (by kernel_rfl) (by kernel_rfl) (by kernel_rfl) (fun _ _ _ h => h) ⟨by rfl, ?_⟩ ?_
            rotate_left
            · intro X hI; obtain ⟨c0, c1⟩ := ra X (hBW.trans (hI.mono hBle)); go_simp; with_reducible rfl
            refine wpI_take (i := 6) (v := ?_) rfl (by kernel_rfl) (by kernel_rfl) (by kernel_rfl) (fun _ _ _ h => h) ⟨by rfl, ?_⟩ ?_
            rotate_left
            · intro X hI; go_simp; with_reducible rfl
            refine wpI_take (i := 7) (v := ?_) rfl (by kernel_rfl) (by kernel_rfl) (by kernel_rfl) (fun _ _ _ h => h) ⟨by rfl, ?_⟩ ?_
            rotate_left
            · intro X hI; go_simp; with_reducible rfl
            refine wpI_take (i := 8) (v := ?_) rfl (by kernel_rfl) (by kernel_rfl) (by kernel_rfl) (fun _ _ _ h => h) ⟨by rfl, ?_⟩ ?_
            rotate_left
            · intro X hI; go_simp; with_reducible rfl
            refine wpI_take (i := 9) (v := ?_) rfl (by kernel_rfl) (by kernel_rfl) (by kernel_rfl) (fun _ _ _ h => h) ⟨by rfl, ?_⟩ ?_
            rotate_left
            · intro X hI; obtain ⟨c0, c1⟩ := rb X (hBo.trans hI); go_simp; with_reducible rfl
            refine wpI_two (i := 1) (j := 10) rfl rfl (by kernel_rfl) l0 (by rfl) (by rfl) ?_ ?_
            · intro K hK
              have l1 := l0
              have c0 := gd.c0
              have c1 := gd.c1
              go_simp
              refine hK _ _ ?_
              refine wpI_only (i := 10) rfl (by kernel_rfl) l1 (by rfl) ?_
              intro K hK
              go_simp
              go_wp2_with (go_at_call 17; refine (sMul_any _ _ _ _ _).mono ?_; rintro e x10 ⟨m1, m2, rfl, em1, em2, hb10⟩; have l2 := bgo l1 hs hb10; have gd_ := gd.call hb10)
              have own2 := own_below own0 hb10
              refine wpI_only (i := 11) rfl (by kernel_rfl) l2 (by rfl) ?_
              intro K hK
              go_simp
              go_wp2_with (go_at_call 24; refine (sSub_any _ _ _ _ _).mono ?_; rintro e x11 ⟨d1, d2, rfl, ed1, ed2, hb11⟩; have l3 := bgo l2 hs hb11; have gd__ := gd_.call hb11)
              have own3 := own_below own2 hb11
              refine wpI_only (i := 12) rfl (by kernel_rfl) l3 (by rfl) ?_
              intro K hK
              have l4 := l3.alloc (Nat.le_trans hs l3.size) (.cells #[.float .f64 d1, .float .f64 d2] 27)
              have own4 := own_below own3 (below_one _ (.cells #[.float .f64 d1, .float .f64 d2] 27))
              go_simp
              refine hK _ _ ?_
              refine wpI_only (i := 13) rfl (by kernel_rfl) l4 (by rfl) ?_
              intro K hK
              refine wp_append_own _ _ _ 29 rfl wo.heap.size 27 i0 (.agg #[.float .f64 0, .float .f64 0]) 2 16 Try.underlying29 hi hz0 hz1 hz2 rfl (by decide) _ _ _ rfl own4 ⟨x11.heap.size, 0, none⟩ 1 1 [.float .f64 d1, .float .f64 d2] rfl rfl (two_new _ _ _ _) (by simp [Value.oneCell']) (by unfold maxLen; omega) (by omega) (Nat.le_trans hs l4.size) ?_
              intro v' w5 hown' hgrow _
              have l5 := l4.grown hgrow (Nat.le_trans hs l4.size) (fun z hz => (World.ownsRow.lt own4 z hz).1)
              refine hK _ _ ?_
              refine wpI_only (i := 14) rfl (by kernel_rfl) l5 (by rfl) ?_
              intro K hK
              have l6 := l5
              go_simp
              have gd___ := gd__
              refine hK _ _ ?_
              refine wpI_done l6 (by kernel_rfl) ?_ _
              rw [cl2_snoc] at hown'
              have HO5 : Hid _ := hown'
              have HB5 : Hid _ := hBo.trans l6
              have E1 : Hid _ := And.intro ed1 em1
              have E2 : Hid _ := And.intro ed2 em2
              clear hown' hgrow
              go_wp2
              go_roundw
              case rel =>
                refine ⟨q + 1, by go_num, by omega, ⟨_, _, HO5.out, fun j hj => ?_⟩, HB5.out⟩
                by_cases hjq : j = q
                · subst hjq
                  simp only [if_pos, E1.out.1, E1.out.2, E2.out.1, E2.out.2, (HCX.out j (by omega)).1, (HCX.out j (by omega)).2, cnext]
                  have hj0 : ¬ j = 0 := by omega
                  simp only [if_neg hj0, (HCX.out (j - 1) (by omega)).1, (HCX.out (j - 1) (by omega)).2]
                  exact ⟨trivial, trivial⟩
                · simp only [if_neg hjq]
                  exact HPX.out j (by omega)
              case measure => simp [intOf]; omega
            · intro K hK
              go_simp
              go_wp2_with (go_at_call 17; refine (sMul_any _ _ _ _ _).mono ?_; rintro e x10 ⟨m1, m2, rfl, em1, em2, hb10⟩; have l1 := bgo l0 hs hb10; have gd_ := gd.call hb10)
              have own1 := own_below own0 hb10
              refine wpI_only (i := 1) rfl (by kernel_rfl) l1 (by rfl) ?_
              intro K hK
              have l2 := l1
              have c0 := gd_.c0
              have c1 := gd_.c1
              go_simp
              refine hK _ _ ?_
              refine wpI_only (i := 11) rfl (by kernel_rfl) l2 (by rfl) ?_
              intro K hK
              go_simp
              go_wp2_with (go_at_call 24; refine (sSub_any _ _ _ _ _).mono ?_; rintro e x11 ⟨d1, d2, rfl, ed1, ed2, hb11⟩; have l3 := bgo l2 hs hb11; have gd__ := gd_.call hb11)
              have own3 := own_below own1 hb11
              refine wpI_only (i := 12) rfl (by kernel_rfl) l3 (by rfl) ?_
              intro K hK
              have l4 := l3.alloc (Nat.le_trans hs l3.size) (.cells #[.float .f64 d1, .float .f64 d2] 27)
              have own4 := own_below own3 (below_one _ (.cells #[.float .f64 d1, .float .f64 d2] 27))
              go_simp
              refine hK _ _ ?_
              refine wpI_only (i := 13) rfl (by kernel_rfl) l4 (by rfl) ?_
              intro K hK
              refine wp_append_own _ _ _ 29 rfl wo.heap.size 27 i0 (.agg #[.float .f64 0, .float .f64 0]) 2 16 Try.underlying29 hi hz0 hz1 hz2 rfl (by decide) _ _ _ rfl own4 ⟨x11.heap.size, 0, none⟩ 1 1 [.float .f64 d1, .float .f64 d2] rfl rfl (two_new _ _ _ _) (by simp [Value.oneCell']) (by unfold maxLen; omega) (by omega) (Nat.le_trans hs l4.size) ?_
              intro v' w5 hown' hgrow _
              have l5 := l4.grown hgrow (Nat.le_trans hs l4.size) (fun z hz => (World.ownsRow.lt own4 z hz).1)
              refine hK _ _ ?_
              refine wpI_only (i := 14) rfl (by kernel_rfl) l5 (by rfl) ?_
              intro K hK
              have l6 := l5
              go_simp
              have gd___ := gd__
              refine hK _ _ ?_
              refine wpI_done l6 (by kernel_rfl) ?_ _
              rw [cl2_snoc] at hown'
              have HO5 : Hid _ := hown'
              have HB5 : Hid _ := hBo.trans l6
              have E1 : Hid _ := And.intro ed1 em1
              have E2 : Hid _ := And.intro ed2 em2
              clear hown' hgrow
              go_wp2
              go_roundw
              case rel =>
                refine ⟨q + 1, by go_num, by omega, ⟨_, _, HO5.out, fun j hj => ?_⟩, HB5.out⟩
                by_cases hjq : j = q
                · subst hjq
                  simp only [if_pos, E1.out.1, E1.out.2, E2.out.1, E2.out.2, (HCX.out j (by omega)).1, (HCX.out j (by omega)).2, cnext]
                  have hj0 : ¬ j = 0 := by omega
                  simp only [if_neg hj0, (HCX.out (j - 1) (by omega)).1, (HCX.out (j - 1) (by omega)).2]
                  exact ⟨trivial, trivial⟩
                · simp only [if_neg hjq]
                  exact HPX.out j (by omega)
              case measure => simp [intOf]; omega
        · obtain rfl : q = k + 1 := by omega
          have hb3 := below_one wr (.cells #[.float .f64 4607182418800017408, .float .f64 0] 27)
          have HO3 := own_below HOW.out hb3
          have HB3 := bstep HB2.out hb3
          go_wp2_with (at_builtin; refine wpList_append_own _ rfl _ _ 29 rfl wo.heap.size 27 i0 (.agg #[.float .f64 0, .float .f64 0]) 2 16 Try.underlying29 hi hz0 hz1 hz2 rfl (by decide) _ _ _ rfl HO3 ⟨wr.heap.size, 0, none⟩ 1 1 [.float .f64 4607182418800017408, .float .f64 0] rfl rfl (two_new _ _ _ _) (by simp [Value.oneCell']) (by unfold maxLen; omega) (by omega) HB3.size ?_)
          intro v' w5 hown' hgrow _
          have HB5 : Hid _ := grown_below HB3 (Nat.le_refl _) HO3 hgrow
          rw [cl2_snoc] at hown'
          have HO5 : Hid _ := hown'
          obtain ⟨ao', ac', hv', _⟩ := fp_of_own hown'
          subst hv'
          clear hown' hgrow HB3 HO3 hb3
          go_wp2
          go_roundw
          case rel =>
            refine ⟨k + 1, _, _, by go_num, by omega, rfl, ⟨_, _, fp_of_own HO5.out, fun j hj => ?_⟩, bstep HBo.out HB5.out⟩
            by_cases hjq : j = k + 1
            · subst hjq
              simp [croot, cn_one, cn_zero]
            · simp only [if_neg hjq]
              simp only [croot, if_neg hjq]
              exact HPX.out j (by omega)
          case measure => simp [intOf]; omega
    · obtain rfl : k = n := by omega
      obtain ⟨X, Y, hfo, hcx⟩ := hrel.out.1
      have HF : Hid _ := And.intro hfo hcx
      clear hfo hcx
      go_wp2
      go_ret
      exact ⟨_, X, Y, rfl, HF.out.1, HF.out.2, hrel.out.2⟩
end Go.Proofs.Ytainkpnkekombaa
