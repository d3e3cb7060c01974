/- LiftedRows: rows drawn. -/
import Derived.Test.YtjpkoladmeeidaaEB
namespace Go.Proofs.Ytjpkoladmeeidaa
open Go.RowKit

set_option maxRecDepth 20000 in
set_option maxHeartbeats 16000000 in
theorem drows_x {w : World} {c : Nat} {a : Option Addr} {len cap : Nat} (h : Cu w c a len cap) :
    Calls Try.prog 13 #[.pointer (some ⟨c, 0, none⟩)] w fun e w' => ∃ v n ms X, e = .returned v ∧ n ≤ 6 ∧ (∀ k, ms k ≤ 8) ∧ Ipp w' v n ms X ∧ Cu w' c a len cap ∧ Keep c w w' := by
  obtain ⟨i0, hi, hz0, hz1, hz2⟩ := info_parts Try.info3
  have HC : Hid (Cu w c a len cap) := h
  have hc0 : c < w.heap.size := h.lt
  clear h
  have G00 : Hid (Gr w.heap.size (w.alloc (.cells #[] 29)) (.slice (some ⟨w.heap.size, 0, none⟩) 0 0) 0 (fun _ => 0) (fun _ _ => 0)) := Gr.start w _ _
  have HC1 : Hid (Cu (w.alloc (.cells #[] 29)) c a len cap) := HC.out.call (below_one _ _)
  have HK1 : Hid (Keep c w (w.alloc (.cells #[] 29))) := (Keep.refl c w).call (below_one _ _)
  go_enter Try.func13, Try.ntmps13
  go_wp2_with (first
    | (go_at_call 12; (fail_if_success have := M1); (with_reducible refine (below_x HC1.out 7).mono ?_); rintro e W1 ⟨Nn, hN0, _, hN1, rfl, hc1, hk1⟩; have hN2 := hN1 (by omega); have C1 : Hid (Cu W1 c a len cap) := hc1; have G1 : Hid (Gr w.heap.size W1 (.slice (some ⟨w.heap.size, 0, none⟩) 0 0) 0 (fun _ => 0) (fun _ _ => 0)) := G00.out.keep hk1 hc0; have K1 : Hid (Keep c w W1) := HK1.out.trans hk1; clear hc1 hk1 hN1; have M1 : Hid True := trivial)
    | (go_at_call 12; have Z0 := M1; (fail_if_success have := M2); (with_reducible refine (below_x C1.out 7).mono ?_); rintro e W2 ⟨Ii, hI0, _, hI1, rfl, hc1, hk1⟩; have hI2 := hI1 (by omega); have C2 : Hid (Cu W2 c a len cap) := hc1; have G2 : Hid (Gr w.heap.size W2 (.slice (some ⟨w.heap.size, 0, none⟩) 0 0) 0 (fun _ => 0) (fun _ _ => 0)) := G1.out.keep hk1 hc0; have K2 : Hid (Keep c w W2) := K1.out.trans hk1; clear hc1 hk1 hI1; have M2 : Hid True := trivial))
  go_loopw [3, 5] (fun o i wr => ∃ (I : Int) (j : Nat) (ms : Nat → Nat) (X : Nat → Nat → Int), i = .int .i64 I ∧ 0 ≤ I ∧ (j : Int) + I ≤ 6 ∧ Hid ((∀ k, ms k ≤ 8) ∧ Gr w.heap.size wr o j ms X ∧ Cu wr c a len cap ∧ Keep c w wr)) (fun _ i _ => (intOf i).toNat)
  case atStart => exact ⟨Ii, 0, _, _, rfl, hI0, by omega, fun _ => Nat.zero_le _, G2.out, C2.out, K2.out⟩
  case round =>
    obtain ⟨I, j, ms, X, rfl, hI, hj, hrel⟩ := hrel
    have HMS : Hid (∀ k, ms k ≤ 8) := hrel.out.1
    have G0 : Hid (Gr w.heap.size wr u3 j ms X) := hrel.out.2.1
    have C0 : Hid (Cu wr c a len cap) := hrel.out.2.2.1
    have K0 : Hid (Keep c w wr) := hrel.out.2.2.2
    have sz0 : w.heap.size ≤ wr.heap.size := hrel.out.2.2.2.size
    clear hrel
    by_cases h1 : 0 < I
    · have hc1 : c < wr.heap.size := Nat.lt_of_lt_of_le hc0 sz0
      have E0 : Hid ((wr.alloc (.cells #[] 3)).ownsRow wr.heap.size 3 1 (.slice (some ⟨wr.heap.size, 0, none⟩) 0 0) 0 (ils (fun _ => 0) 0)) := own_empty wr 3 1
      have E1 : Hid (Cu (wr.alloc (.cells #[] 3)) c a len cap) := C0.out.call (below_one _ _)
      have E2 : Hid (Keep c wr (wr.alloc (.cells #[] 3))) := (Keep.refl c wr).call (below_one _ _)
      go_wp2
      generalize wr.alloc (.cells #[] 3) = W1' at *
      generalize wr = W0 at *
      go_loopw [6, 7] (fun r i wr4 => ∃ (q : Nat) (f : Nat → Int), i = .int .i64 q ∧ (q : Int) ≤ Nn ∧ Hid (wr4.ownsRow W0.heap.size 3 1 r q (ils f q) ∧ Cu wr4 c a len cap ∧ Keep c W0 wr4)) (fun _ i _ => Nn.toNat - (intOf i).toNat)
      case atStart => exact ⟨0, _, rfl, by omega, E0.out, E1.out, E2.out⟩
      case round =>
        obtain ⟨q, f, rfl, hq, hrel⟩ := hrel
        have O1 : Hid (wr.ownsRow W0.heap.size 3 1 u6 q (ils f q)) := hrel.out.1
        have C1' : Hid (Cu wr c a len cap) := hrel.out.2.1
        have K1' : Hid (Keep c W0 wr) := hrel.out.2.2
        clear hrel
        by_cases h2 : (q : Int) < Nn
        · have i28 := dsample_x C1'.out
          go_wp2_with (first
            | (go_at_call 28; (with_reducible refine i28.mono ?_); rintro e W5 ⟨x, rfl, hc5, hk5⟩; have bx := below_one W5 (.cells #[.int .i64 x] 3); have O5 : Hid ((W5.alloc (.cells #[.int .i64 x] 3)).ownsRow W0.heap.size 3 1 u6 q (ils f q)) := own_below (own_keep O1.out hk5 hc1) bx; have C5 : Hid (Cu (W5.alloc (.cells #[.int .i64 x] 3)) c a len cap) := hc5.call bx; have K5 : Hid (Keep c W0 (W5.alloc (.cells #[.int .i64 x] 3))) := (K1'.out.trans hk5).call bx; have Z5 : W0.heap.size ≤ (W5.alloc (.cells #[.int .i64 x] 3)).heap.size := K5.out.size; clear hc5 hk5 bx)
            | (at_builtin; refine wpList_app _ rfl _ _ 29 rfl W0.heap.size 3 i0 (.int .i64 0) 1 8 Try.underlying29 hi hz0 hz1 hz2 rfl (by decide) _ _ _ rfl O5.out ⟨W5.heap.size, 0, none⟩ 1 1 [.int .i64 x] rfl rfl (one_new _ _ _) (by simp [Value.oneCell']) (by unfold maxLen; omega) (by omega) Z5 (by decide) ?_))
          intro v' w4 hown' hgrow hkeep
          rw [ils_app] at hown'
          have B4 : Below W0.heap.size (W5.alloc (.cells #[.int .i64 x] 3)) w4 := grown_below (Below.refl _ _) Z5 O5.out hgrow
          have O6 : Hid (w4.ownsRow W0.heap.size 3 1 v' (q + 1) (ils (fun i => if i = q then x else f i) (q + 1))) := hown'
          have C6 : Hid (Cu w4 c a len cap) := Cu.grow C0.out C5.out K5.out B4
          have K6 : Hid (Keep c W0 w4) := K5.out.below B4
          clear hown' hgrow hkeep B4
          go_wp2
          go_roundw
          case rel => exact ⟨q + 1, _, by go_num, by omega, O6.out, C6.out, K6.out⟩
          case measure => simp [intOf]; omega
        · have hqn : (q : Int) = Nn := by omega
          have HQ : Hid ((q : Int) = Nn) := hqn
          have hq6 : q ≤ 6 := by omega
          clear hqn
          have i29 := once_x C1'.out 40
          obtain ⟨ra, rc, hu6, hrc, _⟩ := il_of_own O1.out
          subst hu6
          go_upto_region 13 with (first
            | (go_at_call 29; (with_reducible refine i29.mono ?_); rintro e W5 ⟨x, rfl, hc5, hk5⟩; have OR : Hid (W5.ownsRow W0.heap.size 3 1 (.slice ra q rc) q (ils f q)) := own_keep O1.out hk5 hc1; have CR : Hid (Cu W5 c a len cap) := hc5; have KR : Hid (Keep c W0 W5) := K1'.out.trans hk5; have bx := below_one W5 (.cells #[.int .i64 1] 3); have O5 : Hid ((W5.alloc (.cells #[.int .i64 1] 3)).ownsRow W0.heap.size 3 1 (.slice ra q rc) q (ils f q)) := own_below OR.out bx; have C5 : Hid (Cu (W5.alloc (.cells #[.int .i64 1] 3)) c a len cap) := hc5.call bx; have K5 : Hid (Keep c W0 (W5.alloc (.cells #[.int .i64 1] 3))) := KR.out.call bx; have Z5 : W0.heap.size ≤ (W5.alloc (.cells #[.int .i64 1] 3)).heap.size := K5.out.size; clear hc5 hk5 bx; cases x)
            | (at_builtin; refine wpList_app _ rfl _ _ 29 rfl W0.heap.size 3 i0 (.int .i64 0) 1 8 Try.underlying29 hi hz0 hz1 hz2 rfl (by decide) _ _ _ rfl O5.out ⟨W5.heap.size, 0, none⟩ 1 1 [.int .i64 1] rfl rfl (one_new _ _ _) (by simp [Value.oneCell']) (by unfold maxLen; omega) (by omega) Z5 (by decide) ?_; intro v' W6 hown' hgrow hkeep; rw [ils_app] at hown'; have B4 : Below W0.heap.size (W5.alloc (.cells #[.int .i64 1] 3)) W6 := grown_below (Below.refl _ _) Z5 O5.out hgrow; have O6 : Hid (W6.ownsRow W0.heap.size 3 1 v' (q + 1) (ils (fun i => if i = q then 1 else f i) (q + 1))) := hown'; have C6 : Hid (Cu W6 c a len cap) := Cu.grow C0.out C5.out K5.out B4; have K6 : Hid (Keep c W0 W6) := K5.out.below B4; clear hown' hgrow hkeep B4 O5 C5 K5 Z5))
          · clear O1 C1' K1' O5 C5 K5 Z5 i29
            have i29b := once_x (w := W5) CR.out 40
            by_cases hn0 : 0 < Nn
            · obtain ⟨gr, cr, hgr, hcr⟩ := own_some OR.out (by omega)
              injection hgr with hg1 _ hg3
              subst hg1 hg3
              have hgW : W0.heap.size ≤ gr := (own_lt OR.out).1
              go_upto_region 15 with (first
                | (go_at_call 29; (with_reducible refine i29b.mono ?_); rintro e W7 ⟨y, rfl, hc7, hk7⟩; have C7 : Hid (Cu W7 c a len cap) := hc7; have K7 : Hid (Keep c W0 W7) := KR.out.trans hk7; have O7 : Hid (W7.ownsRow W0.heap.size 3 1 (.slice (some ⟨gr, 0, none⟩) q rc) q (ils f q)) := own_keep OR.out hk7 hc1; have i30 := pick_lit [1000000001, 8000000000, 8000000001] (by decide) (by decide) hc7; clear hc7 hk7; cases y)
                | (go_at_call 30; refine i30.mono ?_; rintro e W8 ⟨x, rfl, hc8, hk8⟩; have K8 : Hid (Keep c W0 W8) := K7.out.trans hk8; have O8 := own_keep O7.out hk8 hc1; have d0 := World.ownsRow.cellAt O8 0 (by omega); rw [ils_get (by omega)] at d0; have z0 := World.ownsRow.frozenAt O8 0; have B9 : Below W0.heap.size W8 (W8.setCell ⟨gr, 0, none⟩ (.int .i64 x)) := (Below.refl _ _).setCell hgW _; have C9 : Hid (Cu (W8.setCell ⟨gr, 0, none⟩ (.int .i64 x)) c a len cap) := Cu.grow C0.out hc8 K8.out B9; have K9 : Hid (Keep c W0 (W8.setCell ⟨gr, 0, none⟩ (.int .i64 x))) := K8.out.below B9; have O9 : Hid ((W8.setCell ⟨gr, 0, none⟩ (.int .i64 x)).ownsRow W0.heap.size 3 1 (.slice (some ⟨gr, 0, none⟩) q rc) q (ils (fun i => if i = 0 then x else f i) q)) := (by have q9 := (World.ownsRow.stored O8 0 (.int .i64 x)).1; rw [ils_put] at q9; exact q9); clear hc8 hk8 B9 O8))
              · clear OR CR KR i29b i30
                have bx := below_one W7 (.cells #[.slice (some ⟨gr, 0, none⟩) q rc] 29)
                have O5 : Hid ((W7.alloc (.cells #[.slice (some ⟨gr, 0, none⟩) q rc] 29)).ownsRow W0.heap.size 3 1 (.slice (some ⟨gr, 0, none⟩) q rc) q (ils f q)) := own_below O7.out bx
                have G5 : Hid (Gr w.heap.size (W7.alloc (.cells #[.slice (some ⟨gr, 0, none⟩) q rc] 29)) u3 j (msj ms j q) (Xj X j f)) := ((G0.out.keep K7.out hc0).re q f).below bx
                have A5 : Hid (Apart (.slice (some ⟨gr, 0, none⟩) q rc) u3) := G0.out.apart O5.out (Nat.le_refl _)
                have c5 : Hid ((W7.alloc (.cells #[.slice (some ⟨gr, 0, none⟩) q rc] 29)).cell? ⟨W7.heap.size, 0, none⟩ = some (.slice (some ⟨gr, 0, none⟩) q rc)) := one_new W7 (.slice (some ⟨gr, 0, none⟩) q rc) 29 0 (.slice (some ⟨gr, 0, none⟩) q rc) rfl
                have P5 : Hid ((W7.alloc (.cells #[.slice (some ⟨gr, 0, none⟩) q rc] 29)).ownsRow w.heap.size 3 1 (.slice (some ⟨gr, 0, none⟩) q rc) (msj ms j q j) (ils (Xj X j f j) (msj ms j q j))) := by show World.ownsRow _ _ 3 1 _ (msj ms j q j) (ils (Xj X j f j) (msj ms j q j)); rw [msj_at, Xj_at]; exact own_base O5.out sz0
                have o5 := oneS O5.out
                have KW : Hid (Keep c w W7) := K0.out.trans K7.out
                have Z5 : w.heap.size ≤ (W7.alloc (.cells #[.slice (some ⟨gr, 0, none⟩) q rc] 29)).heap.size := Nat.le_trans KW.out.size bx.size
                have BB : Hid (Below W7.heap.size W7 (W7.alloc (.cells #[.slice (some ⟨gr, 0, none⟩) q rc] 29))) := bx
                clear bx
                go_wp2_with (first | (at_builtin; refine wpList_appS rfl _ _ rfl rfl rfl G5.out P5.out A5.out c5.out (by omega) Z5 ?_))
                intro v' w6 hG6 hgrow
                have G6 : Hid (Gr w.heap.size w6 v' (j + 1) (msj ms j q) (Xj X j f)) := hG6
                have B6 : Hid (Below w.heap.size W7 w6) := G5.out.below_grown (BB.out.mono KW.out.size) KW.out.size hgrow
                have C6 : Hid (Cu w6 c a len cap) := Cu.grow HC.out C7.out KW.out B6.out
                have K6 : Hid (Keep c w w6) := KW.out.below B6.out
                clear hG6 hgrow
                go_wp2
                go_roundw
                case rel => exact ⟨I - 1, j + 1, msj ms j q, Xj X j f, by go_num, by omega, by omega, fun k => msj_le HMS.out (by omega) k, G6.out, C6.out, K6.out⟩
                case measure => simp [intOf]; omega
              · clear OR CR KR i29b i30 O7 C7 K7 d0 z0
                generalize W8.setCell ⟨gr, 0, none⟩ (.int .i64 x) = W9 at *
                have bx := below_one W9 (.cells #[.slice (some ⟨gr, 0, none⟩) q rc] 29)
                have O5 : Hid ((W9.alloc (.cells #[.slice (some ⟨gr, 0, none⟩) q rc] 29)).ownsRow W0.heap.size 3 1 (.slice (some ⟨gr, 0, none⟩) q rc) q (ils (fun i => if i = 0 then x else f i) q)) := own_below O9.out bx
                have G5 : Hid (Gr w.heap.size (W9.alloc (.cells #[.slice (some ⟨gr, 0, none⟩) q rc] 29)) u3 j (msj ms j q) (Xj X j (fun i => if i = 0 then x else f i))) := ((G0.out.keep K9.out hc0).re q (fun i => if i = 0 then x else f i)).below bx
                have A5 : Hid (Apart (.slice (some ⟨gr, 0, none⟩) q rc) u3) := G0.out.apart O5.out (Nat.le_refl _)
                have c5 : Hid ((W9.alloc (.cells #[.slice (some ⟨gr, 0, none⟩) q rc] 29)).cell? ⟨W9.heap.size, 0, none⟩ = some (.slice (some ⟨gr, 0, none⟩) q rc)) := one_new W9 (.slice (some ⟨gr, 0, none⟩) q rc) 29 0 (.slice (some ⟨gr, 0, none⟩) q rc) rfl
                have P5 : Hid ((W9.alloc (.cells #[.slice (some ⟨gr, 0, none⟩) q rc] 29)).ownsRow w.heap.size 3 1 (.slice (some ⟨gr, 0, none⟩) q rc) (msj ms j q j) (ils (Xj X j (fun i => if i = 0 then x else f i) j) (msj ms j q j))) := by show World.ownsRow _ _ 3 1 _ (msj ms j q j) (ils (Xj X j (fun i => if i = 0 then x else f i) j) (msj ms j q j)); rw [msj_at, Xj_at]; exact own_base O5.out sz0
                have o5 := oneS O5.out
                have KW : Hid (Keep c w W9) := K0.out.trans K9.out
                have Z5 : w.heap.size ≤ (W9.alloc (.cells #[.slice (some ⟨gr, 0, none⟩) q rc] 29)).heap.size := Nat.le_trans KW.out.size bx.size
                have BB : Hid (Below W9.heap.size W9 (W9.alloc (.cells #[.slice (some ⟨gr, 0, none⟩) q rc] 29))) := bx
                clear bx
                go_wp2_with (first | (at_builtin; refine wpList_appS rfl _ _ rfl rfl rfl G5.out P5.out A5.out c5.out (by omega) Z5 ?_))
                intro v' w6 hG6 hgrow
                have G6 : Hid (Gr w.heap.size w6 v' (j + 1) (msj ms j q) (Xj X j (fun i => if i = 0 then x else f i))) := hG6
                have B6 : Hid (Below w.heap.size W9 w6) := G5.out.below_grown (BB.out.mono KW.out.size) KW.out.size hgrow
                have C6 : Hid (Cu w6 c a len cap) := Cu.grow HC.out C9.out KW.out B6.out
                have K6 : Hid (Keep c w w6) := KW.out.below B6.out
                clear hG6 hgrow
                go_wp2
                go_roundw
                case rel => exact ⟨I - 1, j + 1, msj ms j q, Xj X j (fun i => if i = 0 then x else f i), by go_num, by omega, by omega, fun k => msj_le HMS.out (by omega) k, G6.out, C6.out, K6.out⟩
                case measure => simp [intOf]; omega
            · go_upto_region 15 with (first
                | (go_at_call 29; (with_reducible refine i29b.mono ?_); rintro e W7 ⟨y, rfl, hc7, hk7⟩; have C7 : Hid (Cu W7 c a len cap) := hc7; have K7 : Hid (Keep c W0 W7) := KR.out.trans hk7; have O7 : Hid (W7.ownsRow W0.heap.size 3 1 (.slice ra q rc) q (ils f q)) := own_keep OR.out hk7 hc1; clear hc7 hk7; cases y))
              · clear OR CR KR i29b
                have bx := below_one W7 (.cells #[.slice ra q rc] 29)
                have O5 : Hid ((W7.alloc (.cells #[.slice ra q rc] 29)).ownsRow W0.heap.size 3 1 (.slice ra q rc) q (ils f q)) := own_below O7.out bx
                have G5 : Hid (Gr w.heap.size (W7.alloc (.cells #[.slice ra q rc] 29)) u3 j (msj ms j q) (Xj X j f)) := ((G0.out.keep K7.out hc0).re q f).below bx
                have A5 : Hid (Apart (.slice ra q rc) u3) := G0.out.apart O5.out (Nat.le_refl _)
                have c5 : Hid ((W7.alloc (.cells #[.slice ra q rc] 29)).cell? ⟨W7.heap.size, 0, none⟩ = some (.slice ra q rc)) := one_new W7 (.slice ra q rc) 29 0 (.slice ra q rc) rfl
                have P5 : Hid ((W7.alloc (.cells #[.slice ra q rc] 29)).ownsRow w.heap.size 3 1 (.slice ra q rc) (msj ms j q j) (ils (Xj X j f j) (msj ms j q j))) := by show World.ownsRow _ _ 3 1 _ (msj ms j q j) (ils (Xj X j f j) (msj ms j q j)); rw [msj_at, Xj_at]; exact own_base O5.out sz0
                have o5 := oneS O5.out
                have KW : Hid (Keep c w W7) := K0.out.trans K7.out
                have Z5 : w.heap.size ≤ (W7.alloc (.cells #[.slice ra q rc] 29)).heap.size := Nat.le_trans KW.out.size bx.size
                have BB : Hid (Below W7.heap.size W7 (W7.alloc (.cells #[.slice ra q rc] 29))) := bx
                clear bx
                go_wp2_with (first | (at_builtin; refine wpList_appS rfl _ _ rfl rfl rfl G5.out P5.out A5.out c5.out (by omega) Z5 ?_))
                intro v' w6 hG6 hgrow
                have G6 : Hid (Gr w.heap.size w6 v' (j + 1) (msj ms j q) (Xj X j f)) := hG6
                have B6 : Hid (Below w.heap.size W7 w6) := G5.out.below_grown (BB.out.mono KW.out.size) KW.out.size hgrow
                have C6 : Hid (Cu w6 c a len cap) := Cu.grow HC.out C7.out KW.out B6.out
                have K6 : Hid (Keep c w w6) := KW.out.below B6.out
                clear hG6 hgrow
                go_wp2
                go_roundw
                case rel => exact ⟨I - 1, j + 1, msj ms j q, Xj X j f, by go_num, by omega, by omega, fun k => msj_le HMS.out (by omega) k, G6.out, C6.out, K6.out⟩
                case measure => simp [intOf]; omega
              · clear OR CR KR i29b
                have bx := below_one W7 (.cells #[.slice ra q rc] 29)
                have O5 : Hid ((W7.alloc (.cells #[.slice ra q rc] 29)).ownsRow W0.heap.size 3 1 (.slice ra q rc) q (ils f q)) := own_below O7.out bx
                have G5 : Hid (Gr w.heap.size (W7.alloc (.cells #[.slice ra q rc] 29)) u3 j (msj ms j q) (Xj X j f)) := ((G0.out.keep K7.out hc0).re q f).below bx
                have A5 : Hid (Apart (.slice ra q rc) u3) := G0.out.apart O5.out (Nat.le_refl _)
                have c5 : Hid ((W7.alloc (.cells #[.slice ra q rc] 29)).cell? ⟨W7.heap.size, 0, none⟩ = some (.slice ra q rc)) := one_new W7 (.slice ra q rc) 29 0 (.slice ra q rc) rfl
                have P5 : Hid ((W7.alloc (.cells #[.slice ra q rc] 29)).ownsRow w.heap.size 3 1 (.slice ra q rc) (msj ms j q j) (ils (Xj X j f j) (msj ms j q j))) := by show World.ownsRow _ _ 3 1 _ (msj ms j q j) (ils (Xj X j f j) (msj ms j q j)); rw [msj_at, Xj_at]; exact own_base O5.out sz0
                have o5 := oneS O5.out
                have KW : Hid (Keep c w W7) := K0.out.trans K7.out
                have Z5 : w.heap.size ≤ (W7.alloc (.cells #[.slice ra q rc] 29)).heap.size := Nat.le_trans KW.out.size bx.size
                have BB : Hid (Below W7.heap.size W7 (W7.alloc (.cells #[.slice ra q rc] 29))) := bx
                clear bx
                go_wp2_with (first | (at_builtin; refine wpList_appS rfl _ _ rfl rfl rfl G5.out P5.out A5.out c5.out (by omega) Z5 ?_))
                intro v' w6 hG6 hgrow
                have G6 : Hid (Gr w.heap.size w6 v' (j + 1) (msj ms j q) (Xj X j f)) := hG6
                have B6 : Hid (Below w.heap.size W7 w6) := G5.out.below_grown (BB.out.mono KW.out.size) KW.out.size hgrow
                have C6 : Hid (Cu w6 c a len cap) := Cu.grow HC.out C7.out KW.out B6.out
                have K6 : Hid (Keep c w w6) := KW.out.below B6.out
                clear hG6 hgrow
                go_wp2
                go_roundw
                case rel => exact ⟨I - 1, j + 1, msj ms j q, Xj X j f, by go_num, by omega, by omega, fun k => msj_le HMS.out (by omega) k, G6.out, C6.out, K6.out⟩
                case measure => simp [intOf]; omega
          · clear O1 C1' K1' OR CR KR i29
            obtain ⟨ra, rc, hu6, hrc, _⟩ := il_of_own O6.out
            subst hu6
            have OR : Hid (W6.ownsRow W0.heap.size 3 1 (.slice ra (q + 1) rc) (q + 1) (ils (fun i => if i = q then 1 else f i) (q + 1))) := O6.out
            have CR : Hid (Cu W6 c a len cap) := C6.out
            have KR : Hid (Keep c W0 W6) := K6.out
            clear O6 C6 K6
            have i29b := once_x (w := W6) CR.out 40
            by_cases hn0 : 0 < Nn
            · obtain ⟨gr, cr, hgr, hcr⟩ := own_some OR.out (by omega)
              injection hgr with hg1 _ hg3
              subst hg1 hg3
              have hgW : W0.heap.size ≤ gr := (own_lt OR.out).1
              go_upto_region 15 with (first
                | (go_at_call 29; (with_reducible refine i29b.mono ?_); rintro e W7 ⟨y, rfl, hc7, hk7⟩; have C7 : Hid (Cu W7 c a len cap) := hc7; have K7 : Hid (Keep c W0 W7) := KR.out.trans hk7; have O7 : Hid (W7.ownsRow W0.heap.size 3 1 (.slice (some ⟨gr, 0, none⟩) (q + 1) rc) (q + 1) (ils (fun i => if i = q then 1 else f i) (q + 1))) := own_keep OR.out hk7 hc1; have i30 := pick_lit [1000000001, 8000000000, 8000000001] (by decide) (by decide) hc7; clear hc7 hk7; cases y)
                | (go_at_call 30; refine i30.mono ?_; rintro e W8 ⟨x, rfl, hc8, hk8⟩; have K8 : Hid (Keep c W0 W8) := K7.out.trans hk8; have O8 := own_keep O7.out hk8 hc1; have d0 := World.ownsRow.cellAt O8 0 (by omega); rw [ils_get (by omega)] at d0; have z0 := World.ownsRow.frozenAt O8 0; have B9 : Below W0.heap.size W8 (W8.setCell ⟨gr, 0, none⟩ (.int .i64 x)) := (Below.refl _ _).setCell hgW _; have C9 : Hid (Cu (W8.setCell ⟨gr, 0, none⟩ (.int .i64 x)) c a len cap) := Cu.grow C0.out hc8 K8.out B9; have K9 : Hid (Keep c W0 (W8.setCell ⟨gr, 0, none⟩ (.int .i64 x))) := K8.out.below B9; have O9 : Hid ((W8.setCell ⟨gr, 0, none⟩ (.int .i64 x)).ownsRow W0.heap.size 3 1 (.slice (some ⟨gr, 0, none⟩) (q + 1) rc) (q + 1) (ils (fun i => if i = 0 then x else (fun i => if i = q then 1 else f i) i) (q + 1))) := (by have q9 := (World.ownsRow.stored O8 0 (.int .i64 x)).1; rw [ils_put] at q9; exact q9); clear hc8 hk8 B9 O8))
              · clear OR CR KR i29b i30
                have bx := below_one W7 (.cells #[.slice (some ⟨gr, 0, none⟩) (q + 1) rc] 29)
                have O5 : Hid ((W7.alloc (.cells #[.slice (some ⟨gr, 0, none⟩) (q + 1) rc] 29)).ownsRow W0.heap.size 3 1 (.slice (some ⟨gr, 0, none⟩) (q + 1) rc) (q + 1) (ils (fun i => if i = q then 1 else f i) (q + 1))) := own_below O7.out bx
                have G5 : Hid (Gr w.heap.size (W7.alloc (.cells #[.slice (some ⟨gr, 0, none⟩) (q + 1) rc] 29)) u3 j (msj ms j (q + 1)) (Xj X j (fun i => if i = q then 1 else f i))) := ((G0.out.keep K7.out hc0).re (q + 1) (fun i => if i = q then 1 else f i)).below bx
                have A5 : Hid (Apart (.slice (some ⟨gr, 0, none⟩) (q + 1) rc) u3) := G0.out.apart O5.out (Nat.le_refl _)
                have c5 : Hid ((W7.alloc (.cells #[.slice (some ⟨gr, 0, none⟩) (q + 1) rc] 29)).cell? ⟨W7.heap.size, 0, none⟩ = some (.slice (some ⟨gr, 0, none⟩) (q + 1) rc)) := one_new W7 (.slice (some ⟨gr, 0, none⟩) (q + 1) rc) 29 0 (.slice (some ⟨gr, 0, none⟩) (q + 1) rc) rfl
                have P5 : Hid ((W7.alloc (.cells #[.slice (some ⟨gr, 0, none⟩) (q + 1) rc] 29)).ownsRow w.heap.size 3 1 (.slice (some ⟨gr, 0, none⟩) (q + 1) rc) (msj ms j (q + 1) j) (ils (Xj X j (fun i => if i = q then 1 else f i) j) (msj ms j (q + 1) j))) := by show World.ownsRow _ _ 3 1 _ (msj ms j (q + 1) j) (ils (Xj X j (fun i => if i = q then 1 else f i) j) (msj ms j (q + 1) j)); rw [msj_at, Xj_at]; exact own_base O5.out sz0
                have o5 := oneS O5.out
                have KW : Hid (Keep c w W7) := K0.out.trans K7.out
                have Z5 : w.heap.size ≤ (W7.alloc (.cells #[.slice (some ⟨gr, 0, none⟩) (q + 1) rc] 29)).heap.size := Nat.le_trans KW.out.size bx.size
                have BB : Hid (Below W7.heap.size W7 (W7.alloc (.cells #[.slice (some ⟨gr, 0, none⟩) (q + 1) rc] 29))) := bx
                clear bx
                go_wp2_with (first | (at_builtin; refine wpList_appS rfl _ _ rfl rfl rfl G5.out P5.out A5.out c5.out (by omega) Z5 ?_))
                intro v' w6 hG6 hgrow
                have G6 : Hid (Gr w.heap.size w6 v' (j + 1) (msj ms j (q + 1)) (Xj X j (fun i => if i = q then 1 else f i))) := hG6
                have B6 : Hid (Below w.heap.size W7 w6) := G5.out.below_grown (BB.out.mono KW.out.size) KW.out.size hgrow
                have C6 : Hid (Cu w6 c a len cap) := Cu.grow HC.out C7.out KW.out B6.out
                have K6 : Hid (Keep c w w6) := KW.out.below B6.out
                clear hG6 hgrow
                go_wp2
                go_roundw
                case rel => exact ⟨I - 1, j + 1, msj ms j (q + 1), Xj X j (fun i => if i = q then 1 else f i), by go_num, by omega, by omega, fun k => msj_le HMS.out (by omega) k, G6.out, C6.out, K6.out⟩
                case measure => simp [intOf]; omega
              · clear OR CR KR i29b i30 O7 C7 K7 d0 z0
                generalize W8.setCell ⟨gr, 0, none⟩ (.int .i64 x) = W9 at *
                have bx := below_one W9 (.cells #[.slice (some ⟨gr, 0, none⟩) (q + 1) rc] 29)
                have O5 : Hid ((W9.alloc (.cells #[.slice (some ⟨gr, 0, none⟩) (q + 1) rc] 29)).ownsRow W0.heap.size 3 1 (.slice (some ⟨gr, 0, none⟩) (q + 1) rc) (q + 1) (ils (fun i => if i = 0 then x else (fun i => if i = q then 1 else f i) i) (q + 1))) := own_below O9.out bx
                have G5 : Hid (Gr w.heap.size (W9.alloc (.cells #[.slice (some ⟨gr, 0, none⟩) (q + 1) rc] 29)) u3 j (msj ms j (q + 1)) (Xj X j (fun i => if i = 0 then x else (fun i => if i = q then 1 else f i) i))) := ((G0.out.keep K9.out hc0).re (q + 1) (fun i => if i = 0 then x else (fun i => if i = q then 1 else f i) i)).below bx
                have A5 : Hid (Apart (.slice (some ⟨gr, 0, none⟩) (q + 1) rc) u3) := G0.out.apart O5.out (Nat.le_refl _)
                have c5 : Hid ((W9.alloc (.cells #[.slice (some ⟨gr, 0, none⟩) (q + 1) rc] 29)).cell? ⟨W9.heap.size, 0, none⟩ = some (.slice (some ⟨gr, 0, none⟩) (q + 1) rc)) := one_new W9 (.slice (some ⟨gr, 0, none⟩) (q + 1) rc) 29 0 (.slice (some ⟨gr, 0, none⟩) (q + 1) rc) rfl
                have P5 : Hid ((W9.alloc (.cells #[.slice (some ⟨gr, 0, none⟩) (q + 1) rc] 29)).ownsRow w.heap.size 3 1 (.slice (some ⟨gr, 0, none⟩) (q + 1) rc) (msj ms j (q + 1) j) (ils (Xj X j (fun i => if i = 0 then x else (fun i => if i = q then 1 else f i) i) j) (msj ms j (q + 1) j))) := by show World.ownsRow _ _ 3 1 _ (msj ms j (q + 1) j) (ils (Xj X j (fun i => if i = 0 then x else (fun i => if i = q then 1 else f i) i) j) (msj ms j (q + 1) j)); rw [msj_at, Xj_at]; exact own_base O5.out sz0
                have o5 := oneS O5.out
                have KW : Hid (Keep c w W9) := K0.out.trans K9.out
                have Z5 : w.heap.size ≤ (W9.alloc (.cells #[.slice (some ⟨gr, 0, none⟩) (q + 1) rc] 29)).heap.size := Nat.le_trans KW.out.size bx.size
                have BB : Hid (Below W9.heap.size W9 (W9.alloc (.cells #[.slice (some ⟨gr, 0, none⟩) (q + 1) rc] 29))) := bx
                clear bx
                go_wp2_with (first | (at_builtin; refine wpList_appS rfl _ _ rfl rfl rfl G5.out P5.out A5.out c5.out (by omega) Z5 ?_))
                intro v' w6 hG6 hgrow
                have G6 : Hid (Gr w.heap.size w6 v' (j + 1) (msj ms j (q + 1)) (Xj X j (fun i => if i = 0 then x else (fun i => if i = q then 1 else f i) i))) := hG6
                have B6 : Hid (Below w.heap.size W9 w6) := G5.out.below_grown (BB.out.mono KW.out.size) KW.out.size hgrow
                have C6 : Hid (Cu w6 c a len cap) := Cu.grow HC.out C9.out KW.out B6.out
                have K6 : Hid (Keep c w w6) := KW.out.below B6.out
                clear hG6 hgrow
                go_wp2
                go_roundw
                case rel => exact ⟨I - 1, j + 1, msj ms j (q + 1), Xj X j (fun i => if i = 0 then x else (fun i => if i = q then 1 else f i) i), by go_num, by omega, by omega, fun k => msj_le HMS.out (by omega) k, G6.out, C6.out, K6.out⟩
                case measure => simp [intOf]; omega
            · go_upto_region 15 with (first
                | (go_at_call 29; (with_reducible refine i29b.mono ?_); rintro e W7 ⟨y, rfl, hc7, hk7⟩; have C7 : Hid (Cu W7 c a len cap) := hc7; have K7 : Hid (Keep c W0 W7) := KR.out.trans hk7; have O7 : Hid (W7.ownsRow W0.heap.size 3 1 (.slice ra (q + 1) rc) (q + 1) (ils (fun i => if i = q then 1 else f i) (q + 1))) := own_keep OR.out hk7 hc1; clear hc7 hk7; cases y))
              · clear OR CR KR i29b
                have bx := below_one W7 (.cells #[.slice ra (q + 1) rc] 29)
                have O5 : Hid ((W7.alloc (.cells #[.slice ra (q + 1) rc] 29)).ownsRow W0.heap.size 3 1 (.slice ra (q + 1) rc) (q + 1) (ils (fun i => if i = q then 1 else f i) (q + 1))) := own_below O7.out bx
                have G5 : Hid (Gr w.heap.size (W7.alloc (.cells #[.slice ra (q + 1) rc] 29)) u3 j (msj ms j (q + 1)) (Xj X j (fun i => if i = q then 1 else f i))) := ((G0.out.keep K7.out hc0).re (q + 1) (fun i => if i = q then 1 else f i)).below bx
                have A5 : Hid (Apart (.slice ra (q + 1) rc) u3) := G0.out.apart O5.out (Nat.le_refl _)
                have c5 : Hid ((W7.alloc (.cells #[.slice ra (q + 1) rc] 29)).cell? ⟨W7.heap.size, 0, none⟩ = some (.slice ra (q + 1) rc)) := one_new W7 (.slice ra (q + 1) rc) 29 0 (.slice ra (q + 1) rc) rfl
                have P5 : Hid ((W7.alloc (.cells #[.slice ra (q + 1) rc] 29)).ownsRow w.heap.size 3 1 (.slice ra (q + 1) rc) (msj ms j (q + 1) j) (ils (Xj X j (fun i => if i = q then 1 else f i) j) (msj ms j (q + 1) j))) := by show World.ownsRow _ _ 3 1 _ (msj ms j (q + 1) j) (ils (Xj X j (fun i => if i = q then 1 else f i) j) (msj ms j (q + 1) j)); rw [msj_at, Xj_at]; exact own_base O5.out sz0
                have o5 := oneS O5.out
                have KW : Hid (Keep c w W7) := K0.out.trans K7.out
                have Z5 : w.heap.size ≤ (W7.alloc (.cells #[.slice ra (q + 1) rc] 29)).heap.size := Nat.le_trans KW.out.size bx.size
                have BB : Hid (Below W7.heap.size W7 (W7.alloc (.cells #[.slice ra (q + 1) rc] 29))) := bx
                clear bx
                go_wp2_with (first | (at_builtin; refine wpList_appS rfl _ _ rfl rfl rfl G5.out P5.out A5.out c5.out (by omega) Z5 ?_))
                intro v' w6 hG6 hgrow
                have G6 : Hid (Gr w.heap.size w6 v' (j + 1) (msj ms j (q + 1)) (Xj X j (fun i => if i = q then 1 else f i))) := hG6
                have B6 : Hid (Below w.heap.size W7 w6) := G5.out.below_grown (BB.out.mono KW.out.size) KW.out.size hgrow
                have C6 : Hid (Cu w6 c a len cap) := Cu.grow HC.out C7.out KW.out B6.out
                have K6 : Hid (Keep c w w6) := KW.out.below B6.out
                clear hG6 hgrow
                go_wp2
                go_roundw
                case rel => exact ⟨I - 1, j + 1, msj ms j (q + 1), Xj X j (fun i => if i = q then 1 else f i), by go_num, by omega, by omega, fun k => msj_le HMS.out (by omega) k, G6.out, C6.out, K6.out⟩
                case measure => simp [intOf]; omega
              · clear OR CR KR i29b
                have bx := below_one W7 (.cells #[.slice ra (q + 1) rc] 29)
                have O5 : Hid ((W7.alloc (.cells #[.slice ra (q + 1) rc] 29)).ownsRow W0.heap.size 3 1 (.slice ra (q + 1) rc) (q + 1) (ils (fun i => if i = q then 1 else f i) (q + 1))) := own_below O7.out bx
                have G5 : Hid (Gr w.heap.size (W7.alloc (.cells #[.slice ra (q + 1) rc] 29)) u3 j (msj ms j (q + 1)) (Xj X j (fun i => if i = q then 1 else f i))) := ((G0.out.keep K7.out hc0).re (q + 1) (fun i => if i = q then 1 else f i)).below bx
                have A5 : Hid (Apart (.slice ra (q + 1) rc) u3) := G0.out.apart O5.out (Nat.le_refl _)
                have c5 : Hid ((W7.alloc (.cells #[.slice ra (q + 1) rc] 29)).cell? ⟨W7.heap.size, 0, none⟩ = some (.slice ra (q + 1) rc)) := one_new W7 (.slice ra (q + 1) rc) 29 0 (.slice ra (q + 1) rc) rfl
                have P5 : Hid ((W7.alloc (.cells #[.slice ra (q + 1) rc] 29)).ownsRow w.heap.size 3 1 (.slice ra (q + 1) rc) (msj ms j (q + 1) j) (ils (Xj X j (fun i => if i = q then 1 else f i) j) (msj ms j (q + 1) j))) := by show World.ownsRow _ _ 3 1 _ (msj ms j (q + 1) j) (ils (Xj X j (fun i => if i = q then 1 else f i) j) (msj ms j (q + 1) j)); rw [msj_at, Xj_at]; exact own_base O5.out sz0
                have o5 := oneS O5.out
                have KW : Hid (Keep c w W7) := K0.out.trans K7.out
                have Z5 : w.heap.size ≤ (W7.alloc (.cells #[.slice ra (q + 1) rc] 29)).heap.size := Nat.le_trans KW.out.size bx.size
                have BB : Hid (Below W7.heap.size W7 (W7.alloc (.cells #[.slice ra (q + 1) rc] 29))) := bx
                clear bx
                go_wp2_with (first | (at_builtin; refine wpList_appS rfl _ _ rfl rfl rfl G5.out P5.out A5.out c5.out (by omega) Z5 ?_))
                intro v' w6 hG6 hgrow
                have G6 : Hid (Gr w.heap.size w6 v' (j + 1) (msj ms j (q + 1)) (Xj X j (fun i => if i = q then 1 else f i))) := hG6
                have B6 : Hid (Below w.heap.size W7 w6) := G5.out.below_grown (BB.out.mono KW.out.size) KW.out.size hgrow
                have C6 : Hid (Cu w6 c a len cap) := Cu.grow HC.out C7.out KW.out B6.out
                have K6 : Hid (Keep c w w6) := KW.out.below B6.out
                clear hG6 hgrow
                go_wp2
                go_roundw
                case rel => exact ⟨I - 1, j + 1, msj ms j (q + 1), Xj X j (fun i => if i = q then 1 else f i), by go_num, by omega, by omega, fun k => msj_le HMS.out (by omega) k, G6.out, C6.out, K6.out⟩
                case measure => simp [intOf]; omega
    · obtain rfl : I = 0 := by omega
      go_wp2
      go_ret
      exact ⟨_, rfl, j, by omega, ms, HMS.out, ⟨X, G0.out.ipp⟩, C0.out, K0.out⟩
end Go.Proofs.Ytjpkoladmeeidaa
