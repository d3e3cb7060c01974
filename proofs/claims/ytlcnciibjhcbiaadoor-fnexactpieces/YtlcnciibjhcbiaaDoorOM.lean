/- The model's Fourier: the sums. -/
import Derived.Test.YtlcnciibjhcbiaaDoorOL
namespace Go.Proofs.YtlcnciibjhcbiaaDoor
open Go.RowKit

set_option maxRecDepth 100000 in
set_option maxHeartbeats 8000000 in
theorem sFour_sums {w : World} {v : Value} {n : Nat} {xs ys : Nat → Nat} (hv : Fp w v n xs ys) (h8 : H8 (n : Int)) (bk : Bool)
    (hby : ∀ W u X Y, Fp W u n X Y → (∀ q, q < n → (cn (X q), cn (Y q)) = fpart xs ys n bk q n) → Calls Tryd.prog 25 #[u, .bool bk] W fun e w' => ∃ u' X Y, e = .returned u' ∧ Fp w' u' n X Y ∧ (∀ q, q < n → (cn (X q), cn (Y q)) = four xs ys n bk q) ∧ Below W.heap.size W w') :
    Calls Tryd.prog 7 #[v, .bool bk] w fun e w' => Pg w w' e n (four xs ys n bk) true := by
  have j1 := sH8_any n
  rw [decide_eq_true h8] at j1
  have hn1 : 1 ≤ n ∧ n ≤ 128 := by omega
  obtain ⟨i0, hi, hz0, hz1, hz2⟩ := info_parts Tryd.info40
  obtain ⟨ao, cap, rfl, hcap, hc⟩ := hv
  obtain ⟨b, off, rfl, hlt, hcell⟩ := hc (by omega)
  have HCELL : Hid (∀ k, k < n → w.cell? ⟨b, off + k * 2, none⟩ = some (.float .f64 (xs k)) ∧ w.cell? ⟨b, off + k * 2 + 1, none⟩ = some (.float .f64 (ys k))) := hcell
  have HBY : Hid (∀ W u X Y, Fp W u n X Y → (∀ q, q < n → (cn (X q), cn (Y q)) = fpart xs ys n bk q n) → Calls Tryd.prog 25 #[u, .bool bk] W fun e w' => ∃ u' X Y, e = .returned u' ∧ Fp w' u' n X Y ∧ (∀ q, q < n → (cn (X q), cn (Y q)) = four xs ys n bk q) ∧ Below W.heap.size W w') := hby
  have hST := rStore
  have hnot : ∀ (x : Bool) (w : World), (Op.unary .not (.bool x)).run Tryd.prog w = .ok (.bool (!x)) w := fun _ _ => rfl
  have h0 : Hid ((w.alloc (.cells #[] 40)).ownsRow w.heap.size 40 2 (.slice (some ⟨w.heap.size, 0, none⟩) 0 0) 0 []) := own_empty w 40 2
  obtain ⟨dd, hdd⟩ : ∃ dd : Int, (256 : Int) / (n : Int) = dd := ⟨_, rfl⟩
  have hdt : (256 : Int).tdiv (n : Int) = dd := tdiv_256.trans hdd
  have hd0 : 0 ≤ dd ∧ dd ≤ 256 := by
    have h1 : (0 : Int) ≤ 256 / (n : Int) := Int.ediv_nonneg (by decide) (by omega)
    have h2 : (256 : Int) / (n : Int) ≤ 256 := Int.ediv_le_self _ (by decide)
    omega
  have HDD : Hid ((256 : Int) / (n : Int) = dd) := hdd
  have i1 := sSgn_any bk
  clear hc hcell hby h8 hdd
  go_enter Tryd.func7, Tryd.ntmps7
  go_wp2_with (go_at_call 20; refine (j1 _).mono ?_; rintro e w' ⟨rfl, hw⟩; obtain rfl := hw.symm)
  clear j1
  go_loopw [6, 8] (fun o i wr => ∃ k : Nat, i = .int .i64 k ∧ k ≤ n ∧ Hid ((∃ PX PY, wr.ownsRow w.heap.size 40 2 o k (cl2 PX PY k) ∧ ∀ j, j < k → (cn (PX j), cn (PY j)) = fpart xs ys n bk j n) ∧ Below w.heap.size w wr)) (fun _ i _ => n - (intOf i).toNat)
  case atStart => exact ⟨0, rfl, by omega, ⟨fun _ => 0, fun _ => 0, h0.out, fun j hj => by omega⟩, below_one _ _⟩
  case round =>
    obtain ⟨k, rfl, hk, hrel⟩ := hrel
    obtain ⟨PX, PY, how, hpx⟩ := hrel.out.1
    have HPX : Hid (∀ j, j < k → (cn (PX j), cn (PY j)) = fpart xs ys n bk j n) := hpx
    have HBK : Hid (Below w.heap.size w wr) := hrel.out.2
    rename World => wk
    by_cases h1 : k < n
    · have HOW : Hid _ := how
      obtain ⟨oa, oc, hoe, _⟩ := fp_of_own how
      subst hoe
      have HOW : Hid (wk.ownsRow w.heap.size 40 2 (.slice oa k oc) k (cl2 PX PY k)) := how
      clear hrel how hpx
      have hwk : w.heap.size ≤ wk.heap.size := HBK.out.size
      go_wp2
      go_loopw [10] (fun i wi => ∃ (q a c : Nat), i = .int .i64 q ∧ q ≤ n ∧ Hid ((cn a, cn c) = fpart xs ys n bk k q) ∧ Hid (Rb wi wk.heap.size a c) ∧ Hid (Below wk.heap.size wk wi)) (fun i _ => n - (intOf i).toNat)
      case atStart => exact ⟨0, 0, 0, rfl, by omega, rfl, Rb.new wk 0 0 40 rfl, below_one _ _⟩
      case round =>
        obtain ⟨q, a, c, rfl, hq, HQ, HR, HBI⟩ := hrel
        rename World => wi
        by_cases h2 : q < n
        · have ra : ∀ X, Below wk.heap.size wi X → X.cell? ⟨b, off + q * 2, none⟩ = some (.float .f64 (xs q)) ∧ X.cell? ⟨b, off + q * 2 + 1, none⟩ = some (.float .f64 (ys q)) := fun X hX => by
            have hX' : Below w.heap.size w X := HBK.out.trans ((HBI.out.trans hX).mono hwk)
            exact ⟨(hX'.cell (p := ⟨b, off + q * 2, none⟩) hlt).trans (HCELL.out q h2).1, (hX'.cell (p := ⟨b, off + q * 2 + 1, none⟩) hlt).trans (HCELL.out q h2).2⟩
          have bi := HBI.out
          have hsz : wk.heap.size ≤ wi.heap.size := bi.size
          have R0 : Rb wi.drew wk.heap.size a c := HR.out.drew
          have l0 : Below wk.heap.size wi wi.drew := (Below.refl _ _).drew
          obtain ⟨m1, hm1⟩ : ∃ m1, sgn bk * (q : Int) = m1 := ⟨_, rfl⟩
          have bm1 := sgn_mul bk q (by omega)
          rw [hm1] at bm1
          obtain ⟨m2, hm2⟩ : ∃ m2, m1 * (k : Int) = m2 := ⟨_, rfl⟩
          have bm2 := mul_in (b := (k : Int)) (B := 128) bm1.1 bm1.2 (by omega) (by omega) (by omega)
          rw [hm2] at bm2
          obtain ⟨ss, hss⟩ : ∃ ss, m2 * dd = ss := ⟨_, rfl⟩
          have bss := mul_in (a := m2) (b := dd) (A := 16384) (B := 256) (by omega) (by omega) hd0.1 hd0.2 (by omega)
          rw [hss] at bss
          have HSS : Hid (ss = ((q * k : Nat) : Int) * strd n bk) := by
            rw [← hss, ← hm2, ← hm1, ← HDD.out]
            exact turn_of q k bk
          go_wp2
          refine wp_region_any (by kernel_rfl) ?_
          change wpAny _ _ _ _ _ _ _ (World.drew _)
          refine wpI_any (I := fun X => Below wk.heap.size wi X) _ _ _ _ ?_
          refine wpI_take (i := 1) (v := ?_) rfl (by kernel_rfl) (by kernel_rfl) (by kernel_rfl) (fun _ _ _ h => h) ⟨by rfl, ?_⟩ ?_
          rotate_left
          · intro X hI; go_simp; try go_bits
            try rw [if_pos (by omega)]
            try with_reducible rfl
          refine wpI_take (i := 2) (v := ?_) rfl (by kernel_rfl) (by kernel_rfl) (by kernel_rfl) (fun _ _ _ h => h) ⟨by rfl, ?_⟩ ?_
          rotate_left
          · intro X hI; go_simp; try go_bits
            try rw [if_pos (by omega)]
            try with_reducible rfl
          refine wpI_take (i := 3) (v := ?_) rfl (by kernel_rfl) (by kernel_rfl) (by kernel_rfl) (fun _ _ _ h => h) ⟨by rfl, ?_⟩ ?_
          rotate_left
          · intro X hI; go_simp; try go_bits
            try rw [if_pos (by omega)]
            try with_reducible rfl
          refine wpI_take (i := 4) (v := ?_) rfl (by kernel_rfl) (by kernel_rfl) (by kernel_rfl) (fun _ _ _ h => h) ⟨by rfl, ?_⟩ ?_
          rotate_left
          · intro X hI; obtain ⟨c, c'⟩ := ra X hI; go_simp; try go_bits
            try rw [if_pos (by omega)]
            try with_reducible rfl
          refine wpI_take (i := 5) (v := ?_) rfl (by kernel_rfl) (by kernel_rfl) (by kernel_rfl) (fun _ _ _ h => h) ⟨by rfl, ?_⟩ ?_
          rotate_left
          · intro X hI; go_simp; try go_bits
            try rw [if_pos (by omega)]
            try with_reducible rfl
          refine wpI_take (i := 7) (v := ?_) rfl (by kernel_rfl) (by kernel_rfl) (by kernel_rfl) (fun _ _ _ h => h) ⟨by rfl, ?_⟩ ?_
          rotate_left
          · intro X hI; go_simp; try go_bits
            try rw [if_pos (by omega)]
            try with_reducible rfl
          refine wpI_take (i := 9) (v := ?_) rfl (by kernel_rfl) (by kernel_rfl) (by kernel_rfl) (fun _ _ _ h => h) ⟨by rfl, ?_⟩ ?_
          rotate_left
          · intro X hI; go_simp; try go_bits
            try rw [if_pos (by omega)]
            try with_reducible rfl
          refine wpI_take (i := 11) (v := ?_) rfl (by kernel_rfl) (by kernel_rfl) (by kernel_rfl) (fun _ _ _ h => h) ⟨by rfl, ?_⟩ ?_
          rotate_left
          · intro X hI; go_simp; try go_bits
            try rw [if_pos (by omega)]
            try with_reducible rfl
          refine wpI_take (i := 12) (v := .int .i64 dd) rfl (by kernel_rfl) (by kernel_rfl) (by kernel_rfl) (fun _ _ _ h => h) ⟨by rfl, ?_⟩ ?_
          · intro X hI; go_simp; try go_bits
            try rw [if_pos (by omega)]
            rw [if_neg (by omega)]
          generalize wi.drew = W0 at l0 R0 ⊢
          refine wpI_two (i := 0) (j := 6) rfl rfl (by kernel_rfl) l0 (by rfl) (by rfl) ?_ ?_
          · intro K hK
            have c0 := R0.c0
            have c1 := R0.c1
            go_simp
            refine hK _ _ ?_
            clear hK K c0 c1
            refine wpI_only (i := 6) rfl (by kernel_rfl) l0 (by rfl) ?_
            intro K hK
            go_simp
            go_wp2_with (go_at_call 24; (with_reducible refine (i1 _).mono ?_); rintro e w' ⟨rfl, hw⟩; obtain rfl := hw.symm)
            have l1 := l0
            have R1 := R0
            refine wpI_take (i := 8) (v := .int .i64 m1) rfl (by kernel_rfl) (by kernel_rfl) (by kernel_rfl) (fun _ _ _ h => h) ⟨by rfl, ?_⟩ ?_
            · intro X hI; go_simp; try go_bits
              try rw [if_pos (by omega)]
              try trivial
            refine wpI_take (i := 10) (v := .int .i64 m2) rfl (by kernel_rfl) (by kernel_rfl) (by kernel_rfl) (fun _ _ _ h => h) ⟨by rfl, ?_⟩ ?_
            · intro X hI; go_simp; try go_bits
              try rw [if_pos (by omega)]
              try trivial
            refine wpI_take (i := 13) (v := .int .i64 ss) rfl (by kernel_rfl) (by kernel_rfl) (by kernel_rfl) (fun _ _ _ h => h) ⟨by rfl, ?_⟩ ?_
            · intro X hI; go_simp; try go_bits
              try rw [if_pos (by omega)]
              try trivial
            refine wpI_only (i := 14) rfl (by kernel_rfl) l1 (by rfl) ?_
            intro K hK
            go_simp
            go_wp2_with (go_at_call 23; (with_reducible refine (sTurn_any _ _).mono ?_); rintro e X2 ⟨t1, t2, rfl, et1, et2, hb⟩; have l2 := bgo l1 hsz hb; have R2 := R1.call hb; clear hb)
            refine wpI_only (i := 15) rfl (by kernel_rfl) l2 (by rfl) ?_
            intro K hK
            go_simp
            go_wp2_with (go_at_call 22; (with_reducible refine (sMul_any _ _ _ _ _).mono ?_); rintro e X3 ⟨p1, p2, rfl, em1, em2, hb⟩; have l3 := bgo l2 hsz hb; have R3 := R2.call hb; clear hb)
            refine wpI_only (i := 16) rfl (by kernel_rfl) l3 (by rfl) ?_
            intro K hK
            go_simp
            go_wp2_with (go_at_call 21; (with_reducible refine (sAdd_any _ _ _ _ _).mono ?_); rintro e X4 ⟨z1, z2, rfl, ez1, ez2, hb⟩; have l4 := bgo l3 hsz hb; have R4 := R3.call hb; clear hb)
            have R5 := R4.put z1 z2
            have l5 := (l4.setCell (p := ⟨wk.heap.size, 0, none⟩) (Nat.le_refl _) (.float .f64 z1)).setCell (p := ⟨wk.heap.size, 1, none⟩) (Nat.le_refl _) (.float .f64 z2)
            have c0 := R4.c0
            have c1 := R4.c1
            have y0 := R4.z0
            have y1 := R4.z1
            refine wpI_only (i := 17) rfl (by kernel_rfl) l4 (by rfl) ?_
            intro K hK
            go_simp
            refine hK _ _ ?_
            clear hK K
            refine wpI_done l5 (by kernel_rfl) ?_ _
            have RN : Hid (Rb _ wk.heap.size z1 z2) := R5
            have BN : Hid (Below wk.heap.size wk _) := bi.trans l5
            have EN : Hid ((cn z1, cn z2) = fpart xs ys n bk k (q + 1)) := by
              obtain ⟨p1, p2⟩ := Prod.mk.inj HQ.out
              rw [ez1, ez2, em1, em2, et1, et2, p1, p2, HSS.out]
              rfl
            clear ra i1
            go_wp2
            go_roundw
            case rel => exact ⟨q + 1, z1, z2, by go_num, by omega, EN.out, RN.out, BN.out⟩
            case measure => simp [intOf]; omega
          · intro K hK
            go_simp
            go_wp2_with (go_at_call 24; (with_reducible refine (i1 _).mono ?_); rintro e w' ⟨rfl, hw⟩; obtain rfl := hw.symm)
            have l6 := l0
            have R6 := R0
            refine wpI_take (i := 8) (v := .int .i64 m1) rfl (by kernel_rfl) (by kernel_rfl) (by kernel_rfl) (fun _ _ _ h => h) ⟨by rfl, ?_⟩ ?_
            · intro X hI; go_simp; try go_bits
              try rw [if_pos (by omega)]
              try trivial
            refine wpI_take (i := 10) (v := .int .i64 m2) rfl (by kernel_rfl) (by kernel_rfl) (by kernel_rfl) (fun _ _ _ h => h) ⟨by rfl, ?_⟩ ?_
            · intro X hI; go_simp; try go_bits
              try rw [if_pos (by omega)]
              try trivial
            refine wpI_take (i := 13) (v := .int .i64 ss) rfl (by kernel_rfl) (by kernel_rfl) (by kernel_rfl) (fun _ _ _ h => h) ⟨by rfl, ?_⟩ ?_
            · intro X hI; go_simp; try go_bits
              try rw [if_pos (by omega)]
              try trivial
            refine wpI_two (i := 0) (j := 14) rfl rfl (by kernel_rfl) l6 (by rfl) (by rfl) ?_ ?_
            · intro K hK
              have c0 := R6.c0
              have c1 := R6.c1
              go_simp
              refine hK _ _ ?_
              clear hK K c0 c1
              refine wpI_only (i := 14) rfl (by kernel_rfl) l6 (by rfl) ?_
              intro K hK
              go_simp
              go_wp2_with (go_at_call 23; (with_reducible refine (sTurn_any _ _).mono ?_); rintro e X7 ⟨t1, t2, rfl, et1, et2, hb⟩; have l7 := bgo l6 hsz hb; have R7 := R6.call hb; clear hb)
              refine wpI_only (i := 15) rfl (by kernel_rfl) l7 (by rfl) ?_
              intro K hK
              go_simp
              go_wp2_with (go_at_call 22; (with_reducible refine (sMul_any _ _ _ _ _).mono ?_); rintro e X8 ⟨p1, p2, rfl, em1, em2, hb⟩; have l8 := bgo l7 hsz hb; have R8 := R7.call hb; clear hb)
              refine wpI_only (i := 16) rfl (by kernel_rfl) l8 (by rfl) ?_
              intro K hK
              go_simp
              go_wp2_with (go_at_call 21; (with_reducible refine (sAdd_any _ _ _ _ _).mono ?_); rintro e X9 ⟨z1, z2, rfl, ez1, ez2, hb⟩; have l9 := bgo l8 hsz hb; have R9 := R8.call hb; clear hb)
              have R10 := R9.put z1 z2
              have l10 := (l9.setCell (p := ⟨wk.heap.size, 0, none⟩) (Nat.le_refl _) (.float .f64 z1)).setCell (p := ⟨wk.heap.size, 1, none⟩) (Nat.le_refl _) (.float .f64 z2)
              have c0 := R9.c0
              have c1 := R9.c1
              have y0 := R9.z0
              have y1 := R9.z1
              refine wpI_only (i := 17) rfl (by kernel_rfl) l9 (by rfl) ?_
              intro K hK
              go_simp
              refine hK _ _ ?_
              clear hK K
              refine wpI_done l10 (by kernel_rfl) ?_ _
              have RN : Hid (Rb _ wk.heap.size z1 z2) := R10
              have BN : Hid (Below wk.heap.size wk _) := bi.trans l10
              have EN : Hid ((cn z1, cn z2) = fpart xs ys n bk k (q + 1)) := by
                obtain ⟨p1, p2⟩ := Prod.mk.inj HQ.out
                rw [ez1, ez2, em1, em2, et1, et2, p1, p2, HSS.out]
                rfl
              clear ra i1
              go_wp2
              go_roundw
              case rel => exact ⟨q + 1, z1, z2, by go_num, by omega, EN.out, RN.out, BN.out⟩
              case measure => simp [intOf]; omega
            · intro K hK
              go_simp
              go_wp2_with (go_at_call 23; (with_reducible refine (sTurn_any _ _).mono ?_); rintro e X11 ⟨t1, t2, rfl, et1, et2, hb⟩; have l11 := bgo l6 hsz hb; have R11 := R6.call hb; clear hb)
              refine wpI_two (i := 0) (j := 15) rfl rfl (by kernel_rfl) l11 (by rfl) (by rfl) ?_ ?_
              · intro K hK
                have c0 := R11.c0
                have c1 := R11.c1
                go_simp
                refine hK _ _ ?_
                clear hK K c0 c1
                refine wpI_only (i := 15) rfl (by kernel_rfl) l11 (by rfl) ?_
                intro K hK
                go_simp
                go_wp2_with (go_at_call 22; (with_reducible refine (sMul_any _ _ _ _ _).mono ?_); rintro e X12 ⟨p1, p2, rfl, em1, em2, hb⟩; have l12 := bgo l11 hsz hb; have R12 := R11.call hb; clear hb)
                refine wpI_only (i := 16) rfl (by kernel_rfl) l12 (by rfl) ?_
                intro K hK
                go_simp
                go_wp2_with (go_at_call 21; (with_reducible refine (sAdd_any _ _ _ _ _).mono ?_); rintro e X13 ⟨z1, z2, rfl, ez1, ez2, hb⟩; have l13 := bgo l12 hsz hb; have R13 := R12.call hb; clear hb)
                have R14 := R13.put z1 z2
                have l14 := (l13.setCell (p := ⟨wk.heap.size, 0, none⟩) (Nat.le_refl _) (.float .f64 z1)).setCell (p := ⟨wk.heap.size, 1, none⟩) (Nat.le_refl _) (.float .f64 z2)
                have c0 := R13.c0
                have c1 := R13.c1
                have y0 := R13.z0
                have y1 := R13.z1
                refine wpI_only (i := 17) rfl (by kernel_rfl) l13 (by rfl) ?_
                intro K hK
                go_simp
                refine hK _ _ ?_
                clear hK K
                refine wpI_done l14 (by kernel_rfl) ?_ _
                have RN : Hid (Rb _ wk.heap.size z1 z2) := R14
                have BN : Hid (Below wk.heap.size wk _) := bi.trans l14
                have EN : Hid ((cn z1, cn z2) = fpart xs ys n bk k (q + 1)) := by
                  obtain ⟨p1, p2⟩ := Prod.mk.inj HQ.out
                  rw [ez1, ez2, em1, em2, et1, et2, p1, p2, HSS.out]
                  rfl
                clear ra i1
                go_wp2
                go_roundw
                case rel => exact ⟨q + 1, z1, z2, by go_num, by omega, EN.out, RN.out, BN.out⟩
                case measure => simp [intOf]; omega
              · intro K hK
                go_simp
                go_wp2_with (go_at_call 22; (with_reducible refine (sMul_any _ _ _ _ _).mono ?_); rintro e X15 ⟨p1, p2, rfl, em1, em2, hb⟩; have l15 := bgo l11 hsz hb; have R15 := R11.call hb; clear hb)
                refine wpI_only (i := 0) rfl (by kernel_rfl) l15 (by rfl) ?_
                intro K hK
                have c0 := R15.c0
                have c1 := R15.c1
                go_simp
                refine hK _ _ ?_
                clear hK K c0 c1
                refine wpI_only (i := 16) rfl (by kernel_rfl) l15 (by rfl) ?_
                intro K hK
                go_simp
                go_wp2_with (go_at_call 21; (with_reducible refine (sAdd_any _ _ _ _ _).mono ?_); rintro e X16 ⟨z1, z2, rfl, ez1, ez2, hb⟩; have l16 := bgo l15 hsz hb; have R16 := R15.call hb; clear hb)
                have R17 := R16.put z1 z2
                have l17 := (l16.setCell (p := ⟨wk.heap.size, 0, none⟩) (Nat.le_refl _) (.float .f64 z1)).setCell (p := ⟨wk.heap.size, 1, none⟩) (Nat.le_refl _) (.float .f64 z2)
                have c0 := R16.c0
                have c1 := R16.c1
                have y0 := R16.z0
                have y1 := R16.z1
                refine wpI_only (i := 17) rfl (by kernel_rfl) l16 (by rfl) ?_
                intro K hK
                go_simp
                refine hK _ _ ?_
                clear hK K
                refine wpI_done l17 (by kernel_rfl) ?_ _
                have RN : Hid (Rb _ wk.heap.size z1 z2) := R17
                have BN : Hid (Below wk.heap.size wk _) := bi.trans l17
                have EN : Hid ((cn z1, cn z2) = fpart xs ys n bk k (q + 1)) := by
                  obtain ⟨p1, p2⟩ := Prod.mk.inj HQ.out
                  rw [ez1, ez2, em1, em2, et1, et2, p1, p2, HSS.out]
                  rfl
                clear ra i1
                go_wp2
                go_roundw
                case rel => exact ⟨q + 1, z1, z2, by go_num, by omega, EN.out, RN.out, BN.out⟩
                case measure => simp [intOf]; omega
        · obtain rfl : n = q := by omega
          obtain ⟨c0, c1, y0, y1⟩ := HR.out
          have hb3 := below_one wi (.cells #[.float .f64 a, .float .f64 c] 40)
          have HO3 : (wi.alloc (.cells #[.float .f64 a, .float .f64 c] 40)).ownsRow w.heap.size 40 2 (.slice oa k oc) k (cl2 PX PY k) := own_below (own_below HOW.out HBI.out) hb3
          have HB3 : Below w.heap.size w (wi.alloc (.cells #[.float .f64 a, .float .f64 c] 40)) := bstep (bstep HBK.out HBI.out) hb3
          go_wp2_with (at_builtin; refine wpList_append_own _ rfl _ _ 24 rfl w.heap.size 40 i0 (.agg #[.float .f64 0, .float .f64 0]) 2 16 Tryd.underlying24 hi hz0 hz1 hz2 rfl (by decide) _ _ _ rfl HO3 ⟨wi.heap.size, 0, none⟩ 1 1 [.float .f64 a, .float .f64 c] rfl rfl (two_new _ _ _ _) (by simp [Value.oneCell']) (by unfold maxLen; omega) (by omega) HB3.size ?_)
          intro v' w5 hown' hgrow _
          have HB5 : Hid (Below w.heap.size w w5) := grown_below HB3 (Nat.le_refl _) HO3 hgrow
          rw [cl2_snoc] at hown'
          have HO5 : Hid (w5.ownsRow w.heap.size 40 2 v' (k + 1) (cl2 (fun i => if i = k then a else PX i) (fun i => if i = k then c else PY i) (k + 1))) := hown'
          clear hown' hgrow HB3 HO3 hb3
          go_wp2
          go_roundw
          case rel =>
            refine ⟨k + 1, by go_num, by omega, ⟨_, _, HO5.out, fun j hj => ?_⟩, HB5.out⟩
            by_cases hjq : j = k
            · subst hjq
              simp only [if_pos]
              exact HQ.out
            · simp only [if_neg hjq]
              exact HPX.out j (by omega)
          case measure => simp [intOf]; omega
    · obtain rfl : n = k := by omega
      have HF : Hid (Fp wk _ n PX PY) := fp_of_own how
      clear hrel how hpx
      obtain ⟨oa, oc, rfl, _⟩ := HF.out
      have hb := HBY.out wk _ PX PY HF.out HPX.out
      go_wp2_with (go_at_call 25; (with_reducible refine hb.mono ?_); rintro e w6 ⟨u6, X6, Y6, rfl, hf6, hq6, hb6⟩; have H6 : Hid (Fp w6 u6 n X6 Y6) := hf6; have Q6 : Hid (∀ q, q < n → (cn (X6 q), cn (Y6 q)) = four xs ys n bk q) := hq6; have B6 : Hid (Below w.heap.size w w6) := bstep HBK.out hb6; obtain ⟨ua, uc, rfl, _⟩ := hf6; clear hq6 hb6)
      go_ret2
      exact ⟨_, X6, Y6, rfl, H6.out, Q6.out, B6.out⟩

theorem sFour_good {w : World} {v : Value} {n : Nat} {xs ys : Nat → Nat} (hv : Fp w v n xs ys) (h8 : H8 (n : Int)) (bk : Bool) : Calls Tryd.prog 7 #[v, .bool bk] w fun e w' => Pg w w' e n (four xs ys n bk) true := by
  refine sFour_sums hv h8 bk ?_
  intro W u X Y hf hx
  cases bk
  · refine (sBy_no u W).mono ?_
    rintro e w' ⟨rfl, rfl⟩
    exact ⟨u, X, Y, rfl, hf, hx, Below.refl _ _⟩
  · refine (sBy_any hf (by omega)).mono ?_
    rintro e w' ⟨u', X', Y', rfl, hf', hx', hb⟩
    refine ⟨u', X', Y', rfl, hf', fun q hq => ?_, hb⟩
    obtain ⟨p1, p2⟩ := Prod.mk.inj (hx q hq)
    rw [(hx' q hq).1, (hx' q hq).2, p1, p2]
    rfl
end Go.Proofs.YtlcnciibjhcbiaaDoor
