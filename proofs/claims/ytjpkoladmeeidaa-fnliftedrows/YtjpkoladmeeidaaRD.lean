/- Lift2: along the columns, the walk. -/
import Derived.Test.YtjpkoladmeeidaaRC
namespace Go.Proofs.Ytjpkoladmeeidaa
open Go.RowKit

set_option maxRecDepth 20000 in
set_option maxHeartbeats 8000000 in
theorem iCols25 {w : World} {v : Value} {n m : Nat} {ms : Nat → Nat} {X : Nat → Nat → Int} {ch : Nat → (Nat → Int) → Nat → Int} {kind M : Int} (hch : Chg 19 ch kind) (hv : Ipp w v n ms X) (hn : n ≤ 64) (hm64 : m ≤ 64) (hms : ∀ k, k < n → ms k = m) (h4 : 4 ≤ M) (hM : M ≤ 1000000000000000) (hx : ∀ k, k < n → Wth M m (X k)) :
    Calls Try.prog 17 #[.int .i64 kind, v, .func (.func 19) #[] #[]] w fun e w' => ∃ v', e = .returned v' ∧ OPI w' w.heap.size w'.heap.size v' n ms (fun i j => ch n (fun i => X i j) i) ∧ Below w.heap.size w w' := by
  obtain ⟨i0, hi, hz0, hz1, hz2⟩ := info_parts Try.info29
  obtain ⟨ao, cap, rfl, hcap, hc⟩ := hv
  have HC : Hid (0 < n → ∃ b off, ∃ R : Nat → Value, ao = some ⟨b, off, none⟩ ∧ b < w.heap.size ∧ ∀ k, k < n → w.cell? ⟨b, off + k, none⟩ = some (R k) ∧ Il w (R k) (ms k) (X k)) := hc
  clear hc
  obtain ⟨w1, hm, hrow, hgr⟩ := run_makeSlice_full (P := Try.prog) w w.heap.size 24 29 i0 (.slice none 0 0) 1 Try.underlying24 hi hz0 hz1 .i64 .i64 n (by omega) (by rw [hz2]; omega) (by unfold maxLen; omega) (Nat.le_refl _)
  have hbl : Below w.heap.size w w1 := (Below.refl _ _).grown hgr (Nat.le_refl _) (fun _ h => by cases h)
  generalize hL : (madeCells (Value.slice none 0 0).cells (n * 1)).toList = L at hrow
  have hLn : L.length = n := by rw [← hL, Array.length_toList, size_madeCells, Nat.mul_one]
  rw [list_fun L, hLn] at hrow
  have HR : Hid (∃ f, Ov w1 w.heap.size w.heap.size n n f) := ⟨_, hrow⟩
  have hlt1 : w.heap.size < w1.heap.size := (World.ownsRow.lt hrow _ rfl).2
  have HB : Hid (Below w.heap.size w w1) := hbl
  have HMS : Hid (∀ k, k < n → ms k = m) := hms
  have HCH : Hid (Chg 19 ch kind) := hch
  have HX : Hid (∀ k, k < n → Wth M m (X k)) := hx
  clear hrow hbl hL hgr hi hz0 hz1 hz2 hLn hms hch hx
  have hST := rStoreS
  go_enter Try.func17, Try.ntmps17
  go_wp2
  go_loopw [20] (fun i wr => ∃ k : Nat, i = .int .i64 k ∧ k ≤ n ∧ Hid ((∃ (f R : Nat → Value) (Bs : Nat → Nat), Ov wr w.heap.size w.heap.size n n f ∧ w.heap.size < Bs 0 ∧ (∀ j, j < k → Bs j ≤ Bs (j + 1)) ∧ Bs k ≤ wr.heap.size ∧ ∀ j, j < k → f j = R j ∧ wr.ownsRow (Bs j) 3 1 (R j) (ms j) (ils (fun _ => 0) (ms j)) ∧ ∀ b, (R j).ownBlock = some b → b < Bs (j + 1)) ∧ Below w.heap.size w wr)) (fun i _ => n - (intOf i).toNat)
  case atStart =>
    obtain ⟨f, hf⟩ := HR.out
    exact ⟨0, rfl, by omega, ⟨f, fun _ => .bool false, fun _ => w1.heap.size, hf, hlt1, fun j hj => by omega, Nat.le_refl _, fun j hj => by omega⟩, HB.out⟩
  case round =>
    obtain ⟨k, rfl, hk, hrel⟩ := hrel
    obtain ⟨⟨f, R, Bs, hf, hb0, hmon, hbk, hrows⟩, hbl⟩ := hrel.out
    by_cases h1 : k < n
    · obtain ⟨b, off, Q, rfl, hlt, hcell⟩ := HC.out (by omega)
      obtain ⟨hc1, hfp⟩ := hcell k h1
      obtain ⟨qa, qc, hq, hqc, hqq⟩ := hfp
      have c : wr.cell? ⟨b, off + k, none⟩ = some (.slice qa (ms k) qc) := by rw [hbl.cell (p := ⟨b, off + k, none⟩) hlt, hc1, hq]
      have bm : ms k ≤ 1048576 := by have := HMS.out k h1; omega
      have hmk := mkd_run wr (k := ms k) bm
      have HF : Hid (Ov wr w.heap.size w.heap.size n n f) := hf
      have HROW : Hid (∀ j, j < k → f j = R j ∧ wr.ownsRow (Bs j) 3 1 (R j) (ms j) (ils (fun _ => 0) (ms j)) ∧ ∀ b, (R j).ownBlock = some b → b < Bs (j + 1)) := hrows
      have HMON : Hid (∀ j, j < k → Bs j ≤ Bs (j + 1)) := hmon
      have HBL : Hid (Below w.heap.size w wr) := hbl
      have HB0 : Hid (w.heap.size < Bs 0) := hb0
      have HBK : Hid (Bs k ≤ wr.heap.size) := hbk
      have hb2 := mkd_below wr (ms k)
      have V2 : Hid ((mkd wr (ms k)).ownsRow wr.heap.size 3 1 (.slice (some ⟨wr.heap.size, 0, none⟩) (ms k) (ms k)) (ms k) (ils (fun _ => 0) (ms k))) := mkd_own wr bm (Nat.le_refl _)
      have o2 : Ov (mkd wr (ms k)) w.heap.size w.heap.size n n f := own_below HF.out hb2
      have d0 := o2.cell h1
      have z0 := World.ownsRow.frozenAt o2 k
      have OP : Hid (Ov ((mkd wr (ms k)).setCell ⟨w.heap.size, k, none⟩ (.slice (some ⟨wr.heap.size, 0, none⟩) (ms k) (ms k))) w.heap.size w.heap.size n n (fun i => if i = k then (.slice (some ⟨wr.heap.size, 0, none⟩) (ms k) (ms k)) else f i)) := o2.put k (.slice (some ⟨wr.heap.size, 0, none⟩) (ms k) (ms k))
      have B2 : Hid (Below wr.heap.size wr (mkd wr (ms k))) := hb2
      generalize mkd wr (ms k) = w2 at *
      clear hf hrows hbl hrel hcell hc1 hqq hq hmon hb0 hbk o2 hb2
      go_wp2
      go_roundw
      case rel =>
        have hsz := B2.out.size
        have on : Only w.heap.size w2 (w2.setCell ⟨w.heap.size, k, none⟩ (.slice (some ⟨wr.heap.size, 0, none⟩) (ms k) (ms k))) := (Only.refl _ _).put k _
        refine ⟨k + 1, by go_num, by omega, ⟨_, fun j => if j = k then .slice (some ⟨wr.heap.size, 0, none⟩) (ms k) (ms k) else R j, fun j => if j = k + 1 then w2.heap.size else Bs j, OP.out, ?_, fun j hj => ?_, ?_, fun j hj => ?_⟩, (bstep HBL.out B2.out).setCell (Nat.le_refl _) _⟩
        · show w.heap.size < (if (0 : Nat) = k + 1 then w2.heap.size else Bs 0)
          rw [if_neg (by omega)]; exact HB0.out
        · show (if j = k + 1 then w2.heap.size else Bs j) ≤ (if j + 1 = k + 1 then w2.heap.size else Bs (j + 1))
          rw [if_neg (by omega)]
          by_cases hjk : j = k
          · subst hjk
            rw [if_pos rfl]
            exact Nat.le_trans HBK.out hsz
          · rw [if_neg (by omega)]
            exact HMON.out j (by omega)
        · show (if k + 1 = k + 1 then w2.heap.size else Bs (k + 1)) ≤ _
          rw [if_pos rfl]
          simp [World.setCell]
        · have hBs : ∀ i, i ≤ k → w.heap.size < Bs i := fun i => by
            induction i with
            | zero => intro _; exact HB0.out
            | succ i ih => intro hi; exact Nat.lt_of_lt_of_le (ih (by omega)) (HMON.out i (by omega))
          show (if j = k then _ else f j) = (if j = k then _ else R j) ∧ World.ownsRow _ (if j = k + 1 then w2.heap.size else Bs j) 3 1 (if j = k then _ else R j) _ _ ∧ ∀ b, (if j = k then _ else R j).ownBlock = some b → b < (if j + 1 = k + 1 then w2.heap.size else Bs (j + 1))
          by_cases hjk : j = k
          · subst hjk
            rw [if_pos rfl, if_pos rfl, if_neg (by omega), if_pos rfl]
            have hv := own_base V2.out HBK.out
            refine ⟨rfl, own_only hv on (hBs j (Nat.le_refl _)), fun b hb => ?_⟩
            exact (World.ownsRow.lt V2.out b hb).2
          · rw [if_neg hjk, if_neg hjk, if_neg (by omega), if_neg (by omega)]
            obtain ⟨r1, r2, r3⟩ := HROW.out j (by omega)
            exact ⟨r1, own_only (own_below r2 B2.out) on (hBs j (by omega)), r3⟩
      case measure => simp [intOf]; omega
    · obtain rfl : n = k := by omega
      have HOP : Hid (OPI wr w.heap.size wr.heap.size (.slice (some ⟨w.heap.size, 0, none⟩) n n) n ms (colz ch n X 0)) := by
        refine OPI.congr (X := fun _ _ => 0) ⟨w.heap.size, n, R, Bs, rfl, Nat.le_refl _, Nat.le_refl _, hb0, hmon, hbk, (World.ownsRow.lt hf _ rfl).2, fun j hj => ⟨by rw [hf.cell hj, (hrows j hj).1], (hrows j hj).2⟩⟩ (fun i _ j _ => ?_)
        unfold colz
        rw [if_neg (by omega)]
      have HBL : Hid (Below w.heap.size w wr) := hbl
      clear hf hrows hbl hrel hmon hb0 hbk HB HR
      have HOQ : Hid (OPI wr w.heap.size wr.heap.size (.slice (some ⟨w.heap.size, 0, none⟩) n n) n (fun _ => m) (colz ch n X 0)) := HOP.out.cast HMS.out
      clear HOP
      by_cases h0 : n = 0
      · subst h0
        go_wp2
        go_ret
        exact ⟨_, rfl, (HOQ.out.congr (fun i hi => absurd hi (by omega))).cast (fun i hi => absurd hi (by omega)), HBL.out⟩
      · have n0 : 0 < n := by omega
        have n0' : ¬ ((n : Int) = 0) := by omega
        obtain ⟨b, off, Q, rfl, hlt, hcell⟩ := HC.out n0
        have HCELL : Hid (∀ k, k < n → w.cell? ⟨b, off + k, none⟩ = some (Q k) ∧ Il w (Q k) m (X k)) := fun k hk => ⟨(hcell k hk).1, by have := (hcell k hk).2; rw [HMS.out k hk] at this; exact this⟩
        obtain ⟨hc1, hfp⟩ := HCELL.out 0 n0
        obtain ⟨qa, qc, hq, hqc, hqq⟩ := hfp
        have c : wr.cell? ⟨b, off, none⟩ = some (.slice qa m qc) := by have := HBL.out.cell (p := ⟨b, off + 0, none⟩) hlt; rw [hc1, hq] at this; exact this
        clear hc1 hqq hq hcell HC
        obtain ⟨H0, hH0⟩ : ∃ H0, H0 = wr.heap.size := ⟨_, rfl⟩
        rw [← hH0] at HOQ
        have HH0 : Hid (H0 ≤ wr.heap.size) := Nat.le_of_eq hH0
        have bw : w.heap.size ≤ wr.heap.size := HBL.out.size
        clear hH0
        go_wp2
        rw [show ((n : Int) == 0) = false from beq_eq_false_iff_ne.2 n0']
        go_loopw [40] (fun i wr2 => ∃ p : Nat, i = .int .i64 p ∧ p ≤ m ∧ Hid (OPI wr2 w.heap.size H0 (.slice (some ⟨w.heap.size, 0, none⟩) n n) n (fun _ => m) (colz ch n X p) ∧ Below w.heap.size w wr2 ∧ H0 ≤ wr2.heap.size)) (fun i _ => m - (intOf i).toNat)
        case atStart => exact ⟨0, rfl, by omega, HOQ.out, HBL.out, HH0.out⟩
        case round =>
          obtain ⟨p, rfl, hp, hrel⟩ := hrel
          by_cases h2 : p < m
          · have hmk := mkd_run wr (k := n) (by omega)
            have OC : Hid ((mkd wr n).ownsRow wr.heap.size 3 1 (.slice (some ⟨wr.heap.size, 0, none⟩) n n) n (ils (upk (fun i => X i p) 0) n)) := by show (mkd wr n).ownsRow wr.heap.size 3 1 (.slice (some ⟨wr.heap.size, 0, none⟩) n n) n (ils (upk (fun i => X i p) 0) n); rw [upk_zero]; exact mkd_own wr (by omega) (Nat.le_refl _)
            have OP3 : Hid (OPI (mkd wr n) w.heap.size H0 (.slice (some ⟨w.heap.size, 0, none⟩) n n) n (fun _ => m) (colz ch n X p)) := hrel.out.1.below (mkd_below _ _)
            have BL3 : Hid (Below w.heap.size w (mkd wr n)) := bstep hrel.out.2.1 (mkd_below _ _)
            have hC0 : H0 ≤ wr.heap.size := hrel.out.2.2
            have hC1 : w.heap.size ≤ wr.heap.size := hrel.out.2.1.size
            have hC2 : wr.heap.size < (mkd wr n).heap.size := (own_lt OC.out).2
            clear hrel
            go_wp2
            generalize mkd wr n = W3 at *
            obtain ⟨C, hC⟩ : ∃ C, C = wr.heap.size := ⟨_, rfl⟩
            rw [← hC] at OC hC0 hC1 hC2 ⊢
            clear hC hmk
            go_loopw [48] (fun i wr4 => ∃ q : Nat, i = .int .i64 q ∧ q ≤ n ∧ Hid (wr4.ownsRow C 3 1 (.slice (some ⟨C, 0, none⟩) n n) n (ils (upk (fun i => X i p) q) n) ∧ Only C W3 wr4)) (fun i _ => n - (intOf i).toNat)
            case atStart => exact ⟨0, rfl, by omega, OC.out, Only.refl _ _⟩
            case round =>
              obtain ⟨q, rfl, hq, hrel⟩ := hrel
              by_cases h3 : q < n
              · have HBq : Hid (Below w.heap.size w wr) := Below.only BL3.out hrel.out.2 hC1
                obtain ⟨e1, e2⟩ := HCELL.out q h3
                obtain ⟨qa', qc', e3, e4, e5⟩ := e2
                obtain ⟨b2, off2, rfl, hlt2, e6⟩ := e5 (by omega)
                have e7 := e6 p h2
                rw [e3] at e1
                have c1 : wr.cell? ⟨b, off + q, none⟩ = some (.slice (some ⟨b2, off2, none⟩) m qc') := (HBq.out.cell (p := ⟨b, off + q, none⟩) hlt).trans e1
                have c2 : wr.cell? ⟨b2, off2 + p, none⟩ = some (.int .i64 (X q p)) := (HBq.out.cell (p := ⟨b2, off2 + p, none⟩) hlt2).trans e7
                have d0 := World.ownsRow.cellAt hrel.out.1 q (by omega)
                rw [ils_get h3] at d0
                have z0 := World.ownsRow.frozenAt hrel.out.1 q
                have P4 : Hid ((wr.setCell ⟨C, q, none⟩ (.int .i64 (X q p))).ownsRow C 3 1 (.slice (some ⟨C, 0, none⟩) n n) n (ils (upk (fun i => X i p) (q + 1)) n)) := by
                  have := (World.ownsRow.stored hrel.out.1 q (.int .i64 (X q p))).1
                  rw [ils_put, upk_putv (F := fun i => X i p) rfl] at this
                  exact this
                clear e1 e3 e6 e7
                go_wp2
                go_roundw
                case rel => exact ⟨q + 1, by go_num, by omega, P4.out, hrel.out.2.put q _⟩
                case measure => simp [intOf]; omega
              · obtain rfl : n = q := by omega
                have OF : Hid (wr.ownsRow C 3 1 (.slice (some ⟨C, 0, none⟩) n n) n (ils (fun i => X i p) n)) := by have := hrel.out.1; rw [upk_full] at this; exact this
                have OP4 : Hid (OPI wr w.heap.size H0 (.slice (some ⟨w.heap.size, 0, none⟩) n n) n (fun _ => m) (colz ch n X p)) := OP3.out.only hrel.out.2 hC0
                have BL4 : Hid (Below w.heap.size w wr) := Below.only BL3.out hrel.out.2 hC1
                have sz4 : C < wr.heap.size := (own_lt OF.out).2
                have i5 := HCH.out.run (il_of_own OF.out) (by omega) h4 hM (fun i hi => HX.out i hi p h2)
                clear hrel
                go_wp2_with (go_at_call 19; (with_reducible refine i5.mono ?_); rintro e w5 ⟨u, rfl, ho5, hb5⟩; have OU : Hid (w5.ownsRow wr.heap.size 3 1 u n (ils (ch n (fun i => X i p)) n)) := ho5; have OP5 : Hid (OPI w5 w.heap.size H0 (.slice (some ⟨w.heap.size, 0, none⟩) n n) n (fun _ => m) (colz ch n X p)) := OP4.out.below hb5; have BL5 : Hid (Below w.heap.size w w5) := bstep BL4.out hb5; have sz5 := hb5.size; clear hb5; obtain ⟨gu, cu, hu, hcu⟩ : ∃ gu cu, u = .slice (some ⟨gu, 0, none⟩) n cu ∧ n ≤ cu := own_some ho5 n0; subst hu; clear ho5)
                generalize wr.heap.size = D at *
                go_loopw [67] (fun i wr6 => ∃ q : Nat, i = .int .i64 q ∧ q ≤ n ∧ Hid (OPI wr6 w.heap.size H0 (.slice (some ⟨w.heap.size, 0, none⟩) n n) n (fun _ => m) (colq ch n X p q) ∧ wr6.ownsRow D 3 1 (.slice (some ⟨gu, 0, none⟩) n cu) n (ils (ch n (fun i => X i p)) n) ∧ Below w.heap.size w wr6 ∧ D ≤ wr6.heap.size)) (fun i _ => n - (intOf i).toNat)
                case atStart => exact ⟨0, rfl, by omega, OP5.out.congr (fun i _ j _ => col_first ch n X p i j), OU.out, BL5.out, sz5⟩
                case round =>
                  obtain ⟨q, rfl, hq, hrel⟩ := hrel
                  by_cases h3 : q < n
                  · obtain ⟨g', c', Bk, r1, r2, r3, r4, r5, r6, r7⟩ := hrel.out.1.row (k := q) h3 (by omega)
                    have cu1 := World.ownsRow.cellAt hrel.out.2.1 q (by omega)
                    rw [ils_get h3] at cu1
                    have d0 := World.ownsRow.cellAt r3 p (by omega)
                    rw [ils_get h2] at d0
                    have z0 := World.ownsRow.frozenAt r3 p
                    have R7 : Hid (OPI (wr.setCell ⟨g', p, none⟩ (.int .i64 (ch n (fun i => X i p) q))) w.heap.size H0 (.slice (some ⟨w.heap.size, 0, none⟩) n n) n (fun _ => m) (colq ch n X p (q + 1))) := (r7 p _).congr (fun i _ j _ => col_step ch n X p q i j)
                    have on : Only g' wr (wr.setCell ⟨g', p, none⟩ (.int .i64 (ch n (fun i => X i p) q))) := (Only.refl _ _).put p _
                    have R8 : Hid _ := own_only hrel.out.2.1 on (by omega)
                    have R9 : Hid _ := Below.only hrel.out.2.2.1 on r5
                    have R10 : D ≤ (wr.setCell ⟨g', p, none⟩ (.int .i64 (ch n (fun i => X i p) q))).heap.size := Nat.le_trans hrel.out.2.2.2 on.size
                    have R11 : Hid _ := R10
                    clear r3 r7 on R10
                    generalize ch n (fun i => X i p) q = xv at cu1 R7 R8 R9 R11
                    go_wp2
                    go_roundw
                    case rel => exact ⟨q + 1, by go_num, by omega, R7.out, R8.out, R9.out, R11.out⟩
                    case measure => simp [intOf]; omega
                  · obtain rfl : n = q := by omega
                    have K1 : Hid (OPI wr w.heap.size H0 (.slice (some ⟨w.heap.size, 0, none⟩) n n) n (fun _ => m) (colz ch n X (p + 1))) := hrel.out.1.congr (fun i hi j _ => col_last ch n X p hi j)
                    have K2 : Hid _ := hrel.out.2.2.1
                    have K3 : H0 ≤ wr.heap.size := by have := hrel.out.2.2.2; omega
                    clear hrel
                    go_wp2
                    go_roundw
                    case rel => exact ⟨p + 1, by go_num, by omega, K1.out, K2.out, K3⟩
                    case measure => simp [intOf]; omega
          · obtain rfl : m = p := by omega
            go_wp2
            go_ret
            refine ⟨_, rfl, ((hrel.out.1.congr (fun i hi j hj => ?_)).cast (fun k hk => (HMS.out k hk).symm)).high hrel.out.2.2, hrel.out.2.1⟩
            unfold colz
            rw [if_pos hj]
set_option maxRecDepth 20000 in
set_option maxHeartbeats 8000000 in
theorem iCols30 {w : World} {v : Value} {n m : Nat} {ms : Nat → Nat} {X : Nat → Nat → Int} {ch : Nat → (Nat → Int) → Nat → Int} {kind M : Int} (hch : Chg 26 ch kind) (hv : Ipp w v n ms X) (hn : n ≤ 64) (hm64 : m ≤ 64) (hms : ∀ k, k < n → ms k = m) (h4 : 4 ≤ M) (hM : M ≤ 1000000000000000) (hx : ∀ k, k < n → Wth M m (X k)) :
    Calls Try.prog 17 #[.int .i64 kind, v, .func (.func 26) #[] #[]] w fun e w' => ∃ v', e = .returned v' ∧ OPI w' w.heap.size w'.heap.size v' n ms (fun i j => ch n (fun i => X i j) i) ∧ Below w.heap.size w w' := by
  obtain ⟨i0, hi, hz0, hz1, hz2⟩ := info_parts Try.info29
  obtain ⟨ao, cap, rfl, hcap, hc⟩ := hv
  have HC : Hid (0 < n → ∃ b off, ∃ R : Nat → Value, ao = some ⟨b, off, none⟩ ∧ b < w.heap.size ∧ ∀ k, k < n → w.cell? ⟨b, off + k, none⟩ = some (R k) ∧ Il w (R k) (ms k) (X k)) := hc
  clear hc
  obtain ⟨w1, hm, hrow, hgr⟩ := run_makeSlice_full (P := Try.prog) w w.heap.size 24 29 i0 (.slice none 0 0) 1 Try.underlying24 hi hz0 hz1 .i64 .i64 n (by omega) (by rw [hz2]; omega) (by unfold maxLen; omega) (Nat.le_refl _)
  have hbl : Below w.heap.size w w1 := (Below.refl _ _).grown hgr (Nat.le_refl _) (fun _ h => by cases h)
  generalize hL : (madeCells (Value.slice none 0 0).cells (n * 1)).toList = L at hrow
  have hLn : L.length = n := by rw [← hL, Array.length_toList, size_madeCells, Nat.mul_one]
  rw [list_fun L, hLn] at hrow
  have HR : Hid (∃ f, Ov w1 w.heap.size w.heap.size n n f) := ⟨_, hrow⟩
  have hlt1 : w.heap.size < w1.heap.size := (World.ownsRow.lt hrow _ rfl).2
  have HB : Hid (Below w.heap.size w w1) := hbl
  have HMS : Hid (∀ k, k < n → ms k = m) := hms
  have HCH : Hid (Chg 26 ch kind) := hch
  have HX : Hid (∀ k, k < n → Wth M m (X k)) := hx
  clear hrow hbl hL hgr hi hz0 hz1 hz2 hLn hms hch hx
  have hST := rStoreS
  go_enter Try.func17, Try.ntmps17
  go_wp2
  go_loopw [20] (fun i wr => ∃ k : Nat, i = .int .i64 k ∧ k ≤ n ∧ Hid ((∃ (f R : Nat → Value) (Bs : Nat → Nat), Ov wr w.heap.size w.heap.size n n f ∧ w.heap.size < Bs 0 ∧ (∀ j, j < k → Bs j ≤ Bs (j + 1)) ∧ Bs k ≤ wr.heap.size ∧ ∀ j, j < k → f j = R j ∧ wr.ownsRow (Bs j) 3 1 (R j) (ms j) (ils (fun _ => 0) (ms j)) ∧ ∀ b, (R j).ownBlock = some b → b < Bs (j + 1)) ∧ Below w.heap.size w wr)) (fun i _ => n - (intOf i).toNat)
  case atStart =>
    obtain ⟨f, hf⟩ := HR.out
    exact ⟨0, rfl, by omega, ⟨f, fun _ => .bool false, fun _ => w1.heap.size, hf, hlt1, fun j hj => by omega, Nat.le_refl _, fun j hj => by omega⟩, HB.out⟩
  case round =>
    obtain ⟨k, rfl, hk, hrel⟩ := hrel
    obtain ⟨⟨f, R, Bs, hf, hb0, hmon, hbk, hrows⟩, hbl⟩ := hrel.out
    by_cases h1 : k < n
    · obtain ⟨b, off, Q, rfl, hlt, hcell⟩ := HC.out (by omega)
      obtain ⟨hc1, hfp⟩ := hcell k h1
      obtain ⟨qa, qc, hq, hqc, hqq⟩ := hfp
      have c : wr.cell? ⟨b, off + k, none⟩ = some (.slice qa (ms k) qc) := by rw [hbl.cell (p := ⟨b, off + k, none⟩) hlt, hc1, hq]
      have bm : ms k ≤ 1048576 := by have := HMS.out k h1; omega
      have hmk := mkd_run wr (k := ms k) bm
      have HF : Hid (Ov wr w.heap.size w.heap.size n n f) := hf
      have HROW : Hid (∀ j, j < k → f j = R j ∧ wr.ownsRow (Bs j) 3 1 (R j) (ms j) (ils (fun _ => 0) (ms j)) ∧ ∀ b, (R j).ownBlock = some b → b < Bs (j + 1)) := hrows
      have HMON : Hid (∀ j, j < k → Bs j ≤ Bs (j + 1)) := hmon
      have HBL : Hid (Below w.heap.size w wr) := hbl
      have HB0 : Hid (w.heap.size < Bs 0) := hb0
      have HBK : Hid (Bs k ≤ wr.heap.size) := hbk
      have hb2 := mkd_below wr (ms k)
      have V2 : Hid ((mkd wr (ms k)).ownsRow wr.heap.size 3 1 (.slice (some ⟨wr.heap.size, 0, none⟩) (ms k) (ms k)) (ms k) (ils (fun _ => 0) (ms k))) := mkd_own wr bm (Nat.le_refl _)
      have o2 : Ov (mkd wr (ms k)) w.heap.size w.heap.size n n f := own_below HF.out hb2
      have d0 := o2.cell h1
      have z0 := World.ownsRow.frozenAt o2 k
      have OP : Hid (Ov ((mkd wr (ms k)).setCell ⟨w.heap.size, k, none⟩ (.slice (some ⟨wr.heap.size, 0, none⟩) (ms k) (ms k))) w.heap.size w.heap.size n n (fun i => if i = k then (.slice (some ⟨wr.heap.size, 0, none⟩) (ms k) (ms k)) else f i)) := o2.put k (.slice (some ⟨wr.heap.size, 0, none⟩) (ms k) (ms k))
      have B2 : Hid (Below wr.heap.size wr (mkd wr (ms k))) := hb2
      generalize mkd wr (ms k) = w2 at *
      clear hf hrows hbl hrel hcell hc1 hqq hq hmon hb0 hbk o2 hb2
      go_wp2
      go_roundw
      case rel =>
        have hsz := B2.out.size
        have on : Only w.heap.size w2 (w2.setCell ⟨w.heap.size, k, none⟩ (.slice (some ⟨wr.heap.size, 0, none⟩) (ms k) (ms k))) := (Only.refl _ _).put k _
        refine ⟨k + 1, by go_num, by omega, ⟨_, fun j => if j = k then .slice (some ⟨wr.heap.size, 0, none⟩) (ms k) (ms k) else R j, fun j => if j = k + 1 then w2.heap.size else Bs j, OP.out, ?_, fun j hj => ?_, ?_, fun j hj => ?_⟩, (bstep HBL.out B2.out).setCell (Nat.le_refl _) _⟩
        · show w.heap.size < (if (0 : Nat) = k + 1 then w2.heap.size else Bs 0)
          rw [if_neg (by omega)]; exact HB0.out
        · show (if j = k + 1 then w2.heap.size else Bs j) ≤ (if j + 1 = k + 1 then w2.heap.size else Bs (j + 1))
          rw [if_neg (by omega)]
          by_cases hjk : j = k
          · subst hjk
            rw [if_pos rfl]
            exact Nat.le_trans HBK.out hsz
          · rw [if_neg (by omega)]
            exact HMON.out j (by omega)
        · show (if k + 1 = k + 1 then w2.heap.size else Bs (k + 1)) ≤ _
          rw [if_pos rfl]
          simp [World.setCell]
        · have hBs : ∀ i, i ≤ k → w.heap.size < Bs i := fun i => by
            induction i with
            | zero => intro _; exact HB0.out
            | succ i ih => intro hi; exact Nat.lt_of_lt_of_le (ih (by omega)) (HMON.out i (by omega))
          show (if j = k then _ else f j) = (if j = k then _ else R j) ∧ World.ownsRow _ (if j = k + 1 then w2.heap.size else Bs j) 3 1 (if j = k then _ else R j) _ _ ∧ ∀ b, (if j = k then _ else R j).ownBlock = some b → b < (if j + 1 = k + 1 then w2.heap.size else Bs (j + 1))
          by_cases hjk : j = k
          · subst hjk
            rw [if_pos rfl, if_pos rfl, if_neg (by omega), if_pos rfl]
            have hv := own_base V2.out HBK.out
            refine ⟨rfl, own_only hv on (hBs j (Nat.le_refl _)), fun b hb => ?_⟩
            exact (World.ownsRow.lt V2.out b hb).2
          · rw [if_neg hjk, if_neg hjk, if_neg (by omega), if_neg (by omega)]
            obtain ⟨r1, r2, r3⟩ := HROW.out j (by omega)
            exact ⟨r1, own_only (own_below r2 B2.out) on (hBs j (by omega)), r3⟩
      case measure => simp [intOf]; omega
    · obtain rfl : n = k := by omega
      have HOP : Hid (OPI wr w.heap.size wr.heap.size (.slice (some ⟨w.heap.size, 0, none⟩) n n) n ms (colz ch n X 0)) := by
        refine OPI.congr (X := fun _ _ => 0) ⟨w.heap.size, n, R, Bs, rfl, Nat.le_refl _, Nat.le_refl _, hb0, hmon, hbk, (World.ownsRow.lt hf _ rfl).2, fun j hj => ⟨by rw [hf.cell hj, (hrows j hj).1], (hrows j hj).2⟩⟩ (fun i _ j _ => ?_)
        unfold colz
        rw [if_neg (by omega)]
      have HBL : Hid (Below w.heap.size w wr) := hbl
      clear hf hrows hbl hrel hmon hb0 hbk HB HR
      have HOQ : Hid (OPI wr w.heap.size wr.heap.size (.slice (some ⟨w.heap.size, 0, none⟩) n n) n (fun _ => m) (colz ch n X 0)) := HOP.out.cast HMS.out
      clear HOP
      by_cases h0 : n = 0
      · subst h0
        go_wp2
        go_ret
        exact ⟨_, rfl, (HOQ.out.congr (fun i hi => absurd hi (by omega))).cast (fun i hi => absurd hi (by omega)), HBL.out⟩
      · have n0 : 0 < n := by omega
        have n0' : ¬ ((n : Int) = 0) := by omega
        obtain ⟨b, off, Q, rfl, hlt, hcell⟩ := HC.out n0
        have HCELL : Hid (∀ k, k < n → w.cell? ⟨b, off + k, none⟩ = some (Q k) ∧ Il w (Q k) m (X k)) := fun k hk => ⟨(hcell k hk).1, by have := (hcell k hk).2; rw [HMS.out k hk] at this; exact this⟩
        obtain ⟨hc1, hfp⟩ := HCELL.out 0 n0
        obtain ⟨qa, qc, hq, hqc, hqq⟩ := hfp
        have c : wr.cell? ⟨b, off, none⟩ = some (.slice qa m qc) := by have := HBL.out.cell (p := ⟨b, off + 0, none⟩) hlt; rw [hc1, hq] at this; exact this
        clear hc1 hqq hq hcell HC
        obtain ⟨H0, hH0⟩ : ∃ H0, H0 = wr.heap.size := ⟨_, rfl⟩
        rw [← hH0] at HOQ
        have HH0 : Hid (H0 ≤ wr.heap.size) := Nat.le_of_eq hH0
        have bw : w.heap.size ≤ wr.heap.size := HBL.out.size
        clear hH0
        go_wp2
        rw [show ((n : Int) == 0) = false from beq_eq_false_iff_ne.2 n0']
        go_loopw [40] (fun i wr2 => ∃ p : Nat, i = .int .i64 p ∧ p ≤ m ∧ Hid (OPI wr2 w.heap.size H0 (.slice (some ⟨w.heap.size, 0, none⟩) n n) n (fun _ => m) (colz ch n X p) ∧ Below w.heap.size w wr2 ∧ H0 ≤ wr2.heap.size)) (fun i _ => m - (intOf i).toNat)
        case atStart => exact ⟨0, rfl, by omega, HOQ.out, HBL.out, HH0.out⟩
        case round =>
          obtain ⟨p, rfl, hp, hrel⟩ := hrel
          by_cases h2 : p < m
          · have hmk := mkd_run wr (k := n) (by omega)
            have OC : Hid ((mkd wr n).ownsRow wr.heap.size 3 1 (.slice (some ⟨wr.heap.size, 0, none⟩) n n) n (ils (upk (fun i => X i p) 0) n)) := by show (mkd wr n).ownsRow wr.heap.size 3 1 (.slice (some ⟨wr.heap.size, 0, none⟩) n n) n (ils (upk (fun i => X i p) 0) n); rw [upk_zero]; exact mkd_own wr (by omega) (Nat.le_refl _)
            have OP3 : Hid (OPI (mkd wr n) w.heap.size H0 (.slice (some ⟨w.heap.size, 0, none⟩) n n) n (fun _ => m) (colz ch n X p)) := hrel.out.1.below (mkd_below _ _)
            have BL3 : Hid (Below w.heap.size w (mkd wr n)) := bstep hrel.out.2.1 (mkd_below _ _)
            have hC0 : H0 ≤ wr.heap.size := hrel.out.2.2
            have hC1 : w.heap.size ≤ wr.heap.size := hrel.out.2.1.size
            have hC2 : wr.heap.size < (mkd wr n).heap.size := (own_lt OC.out).2
            clear hrel
            go_wp2
            generalize mkd wr n = W3 at *
            obtain ⟨C, hC⟩ : ∃ C, C = wr.heap.size := ⟨_, rfl⟩
            rw [← hC] at OC hC0 hC1 hC2 ⊢
            clear hC hmk
            go_loopw [48] (fun i wr4 => ∃ q : Nat, i = .int .i64 q ∧ q ≤ n ∧ Hid (wr4.ownsRow C 3 1 (.slice (some ⟨C, 0, none⟩) n n) n (ils (upk (fun i => X i p) q) n) ∧ Only C W3 wr4)) (fun i _ => n - (intOf i).toNat)
            case atStart => exact ⟨0, rfl, by omega, OC.out, Only.refl _ _⟩
            case round =>
              obtain ⟨q, rfl, hq, hrel⟩ := hrel
              by_cases h3 : q < n
              · have HBq : Hid (Below w.heap.size w wr) := Below.only BL3.out hrel.out.2 hC1
                obtain ⟨e1, e2⟩ := HCELL.out q h3
                obtain ⟨qa', qc', e3, e4, e5⟩ := e2
                obtain ⟨b2, off2, rfl, hlt2, e6⟩ := e5 (by omega)
                have e7 := e6 p h2
                rw [e3] at e1
                have c1 : wr.cell? ⟨b, off + q, none⟩ = some (.slice (some ⟨b2, off2, none⟩) m qc') := (HBq.out.cell (p := ⟨b, off + q, none⟩) hlt).trans e1
                have c2 : wr.cell? ⟨b2, off2 + p, none⟩ = some (.int .i64 (X q p)) := (HBq.out.cell (p := ⟨b2, off2 + p, none⟩) hlt2).trans e7
                have d0 := World.ownsRow.cellAt hrel.out.1 q (by omega)
                rw [ils_get h3] at d0
                have z0 := World.ownsRow.frozenAt hrel.out.1 q
                have P4 : Hid ((wr.setCell ⟨C, q, none⟩ (.int .i64 (X q p))).ownsRow C 3 1 (.slice (some ⟨C, 0, none⟩) n n) n (ils (upk (fun i => X i p) (q + 1)) n)) := by
                  have := (World.ownsRow.stored hrel.out.1 q (.int .i64 (X q p))).1
                  rw [ils_put, upk_putv (F := fun i => X i p) rfl] at this
                  exact this
                clear e1 e3 e6 e7
                go_wp2
                go_roundw
                case rel => exact ⟨q + 1, by go_num, by omega, P4.out, hrel.out.2.put q _⟩
                case measure => simp [intOf]; omega
              · obtain rfl : n = q := by omega
                have OF : Hid (wr.ownsRow C 3 1 (.slice (some ⟨C, 0, none⟩) n n) n (ils (fun i => X i p) n)) := by have := hrel.out.1; rw [upk_full] at this; exact this
                have OP4 : Hid (OPI wr w.heap.size H0 (.slice (some ⟨w.heap.size, 0, none⟩) n n) n (fun _ => m) (colz ch n X p)) := OP3.out.only hrel.out.2 hC0
                have BL4 : Hid (Below w.heap.size w wr) := Below.only BL3.out hrel.out.2 hC1
                have sz4 : C < wr.heap.size := (own_lt OF.out).2
                have i5 := HCH.out.run (il_of_own OF.out) (by omega) h4 hM (fun i hi => HX.out i hi p h2)
                clear hrel
                go_wp2_with (go_at_call 26; (with_reducible refine i5.mono ?_); rintro e w5 ⟨u, rfl, ho5, hb5⟩; have OU : Hid (w5.ownsRow wr.heap.size 3 1 u n (ils (ch n (fun i => X i p)) n)) := ho5; have OP5 : Hid (OPI w5 w.heap.size H0 (.slice (some ⟨w.heap.size, 0, none⟩) n n) n (fun _ => m) (colz ch n X p)) := OP4.out.below hb5; have BL5 : Hid (Below w.heap.size w w5) := bstep BL4.out hb5; have sz5 := hb5.size; clear hb5; obtain ⟨gu, cu, hu, hcu⟩ : ∃ gu cu, u = .slice (some ⟨gu, 0, none⟩) n cu ∧ n ≤ cu := own_some ho5 n0; subst hu; clear ho5)
                generalize wr.heap.size = D at *
                go_loopw [67] (fun i wr6 => ∃ q : Nat, i = .int .i64 q ∧ q ≤ n ∧ Hid (OPI wr6 w.heap.size H0 (.slice (some ⟨w.heap.size, 0, none⟩) n n) n (fun _ => m) (colq ch n X p q) ∧ wr6.ownsRow D 3 1 (.slice (some ⟨gu, 0, none⟩) n cu) n (ils (ch n (fun i => X i p)) n) ∧ Below w.heap.size w wr6 ∧ D ≤ wr6.heap.size)) (fun i _ => n - (intOf i).toNat)
                case atStart => exact ⟨0, rfl, by omega, OP5.out.congr (fun i _ j _ => col_first ch n X p i j), OU.out, BL5.out, sz5⟩
                case round =>
                  obtain ⟨q, rfl, hq, hrel⟩ := hrel
                  by_cases h3 : q < n
                  · obtain ⟨g', c', Bk, r1, r2, r3, r4, r5, r6, r7⟩ := hrel.out.1.row (k := q) h3 (by omega)
                    have cu1 := World.ownsRow.cellAt hrel.out.2.1 q (by omega)
                    rw [ils_get h3] at cu1
                    have d0 := World.ownsRow.cellAt r3 p (by omega)
                    rw [ils_get h2] at d0
                    have z0 := World.ownsRow.frozenAt r3 p
                    have R7 : Hid (OPI (wr.setCell ⟨g', p, none⟩ (.int .i64 (ch n (fun i => X i p) q))) w.heap.size H0 (.slice (some ⟨w.heap.size, 0, none⟩) n n) n (fun _ => m) (colq ch n X p (q + 1))) := (r7 p _).congr (fun i _ j _ => col_step ch n X p q i j)
                    have on : Only g' wr (wr.setCell ⟨g', p, none⟩ (.int .i64 (ch n (fun i => X i p) q))) := (Only.refl _ _).put p _
                    have R8 : Hid _ := own_only hrel.out.2.1 on (by omega)
                    have R9 : Hid _ := Below.only hrel.out.2.2.1 on r5
                    have R10 : D ≤ (wr.setCell ⟨g', p, none⟩ (.int .i64 (ch n (fun i => X i p) q))).heap.size := Nat.le_trans hrel.out.2.2.2 on.size
                    have R11 : Hid _ := R10
                    clear r3 r7 on R10
                    generalize ch n (fun i => X i p) q = xv at cu1 R7 R8 R9 R11
                    go_wp2
                    go_roundw
                    case rel => exact ⟨q + 1, by go_num, by omega, R7.out, R8.out, R9.out, R11.out⟩
                    case measure => simp [intOf]; omega
                  · obtain rfl : n = q := by omega
                    have K1 : Hid (OPI wr w.heap.size H0 (.slice (some ⟨w.heap.size, 0, none⟩) n n) n (fun _ => m) (colz ch n X (p + 1))) := hrel.out.1.congr (fun i hi j _ => col_last ch n X p hi j)
                    have K2 : Hid _ := hrel.out.2.2.1
                    have K3 : H0 ≤ wr.heap.size := by have := hrel.out.2.2.2; omega
                    clear hrel
                    go_wp2
                    go_roundw
                    case rel => exact ⟨p + 1, by go_num, by omega, K1.out, K2.out, K3⟩
                    case measure => simp [intOf]; omega
          · obtain rfl : m = p := by omega
            go_wp2
            go_ret
            refine ⟨_, rfl, ((hrel.out.1.congr (fun i hi j hj => ?_)).cast (fun k hk => (HMS.out k hk).symm)).high hrel.out.2.2, hrel.out.2.1⟩
            unfold colz
            rw [if_pos hj]
end Go.Proofs.Ytjpkoladmeeidaa
