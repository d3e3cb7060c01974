/- Lift2: along the rows. -/
import Derived.Test.YtjpkoladmeeidaaRQ
namespace Go.Proofs.Ytjpkoladmeeidaa
open Go.RowKit

/-- A function that changes a list. -/
structure Chg (f : Nat) (ch : Nat → (Nat → Int) → Nat → Int) (kind : Int) : Prop where
  run : ∀ {W : World} {v : Value} {n : Nat} {xs : Nat → Int} {M : Int}, Il W v n xs → n ≤ 1048576 → 4 ≤ M → M ≤ 1000000000000000 → Wth M n xs → Calls Try.prog f #[.int .i64 kind, v] W fun e w' => P1 W w' e n (ch n xs)
  wth : ∀ {n : Nat} {xs : Nat → Int} {M : Int}, 4 ≤ M → Wth M n xs → Wth (5 * M) n (ch n xs)

theorem chg_lift {kind : Int} (hk : Knd kind) : Chg 19 (lft kind) kind := ⟨fun hv hn h4 hM hx => iLifted_any hk hv hn h4 hM hx, fun h4 hx k hk2 => by have := lft_with (kind := kind) h4 hx k hk2; omega⟩

theorem chg_back {kind : Int} (hk : Knd kind) : Chg 26 (ubk kind) kind := ⟨fun hv hn h4 hM hx => iUn_any hk hv hn h4 hM hx, fun h4 hx => ubk_with h4 hx⟩

set_option maxRecDepth 20000 in
set_option maxHeartbeats 4000000 in
theorem iRows25 {w : World} {v : Value} {n : Nat} {ms : Nat → Nat} {X : Nat → Nat → Int} {ch : Nat → (Nat → Int) → Nat → Int} {kind M : Int} (hch : Chg 19 ch kind) (hv : Ipp w v n ms X) (hn : n ≤ 1048576) (hms : ∀ k, k < n → ms k ≤ 1048576) (h4 : 4 ≤ M) (hM : M ≤ 1000000000000000) (hx : ∀ k, k < n → Wth M (ms k) (X k)) :
    Calls Try.prog 18 #[.int .i64 kind, v, .func (.func 19) #[] #[]] w fun e w' => ∃ v', e = .returned v' ∧ OPI w' w.heap.size w'.heap.size v' n ms (fun k => ch (ms k) (X k)) ∧ Below w.heap.size w w' := by
  obtain ⟨i0, hi, hz0, hz1, hz2⟩ := info_parts Try.info29
  obtain ⟨ao, cap, rfl, hcap, hc⟩ := hv
  have HC : Hid (0 < n → ∃ b off, ∃ R : Nat → Value, ao = some ⟨b, off, none⟩ ∧ b < w.heap.size ∧ ∀ k, k < n → w.cell? ⟨b, off + k, none⟩ = some (R k) ∧ Il w (R k) (ms k) (X k)) := hc
  clear hc
  obtain ⟨w1, hm, hrow, hgr⟩ := run_makeSlice_full (P := Try.prog) w w.heap.size 24 29 i0 (.slice none 0 0) 1 Try.underlying24 hi hz0 hz1 .i64 .i64 n (by omega) (by rw [hz2]; omega) (by unfold maxLen; omega) (Nat.le_refl _)
  have hbl : Below w.heap.size w w1 := (Below.refl _ _).grown hgr (Nat.le_refl _) (fun _ h => by cases h)
  generalize hL : (madeCells (Value.slice none 0 0).cells (n * 1)).toList = L at hrow
  have hLn : L.length = n := by rw [← hL, Array.length_toList, size_madeCells, Nat.mul_one]
  rw [list_fun L, hLn] at hrow
  have HR : Hid (∃ f, Ov w1 w.heap.size w.heap.size n n f) := ⟨_, hrow⟩
  have hlt1 : w.heap.size < w1.heap.size := (World.ownsRow.lt hrow _ rfl).2
  have HB : Hid (Below w.heap.size w w1) := hbl
  have HMS : Hid (∀ k, k < n → ms k ≤ 1048576) := hms
  have HCH : Hid (Chg 19 ch kind) := hch
  have HX : Hid (∀ k, k < n → Wth M (ms k) (X k)) := hx
  clear hrow hbl hL hgr hi hz0 hz1 hz2 hLn hms hch hx
  have hST := rStoreS
  go_enter Try.func18, Try.ntmps18
  go_wp2
  go_loopw [14] (fun i wr => ∃ k : Nat, i = .int .i64 k ∧ k ≤ n ∧ Hid ((∃ (f R : Nat → Value) (Bs : Nat → Nat), Ov wr w.heap.size w.heap.size n n f ∧ w.heap.size < Bs 0 ∧ (∀ j, j < k → Bs j ≤ Bs (j + 1)) ∧ Bs k ≤ wr.heap.size ∧ ∀ j, j < k → f j = R j ∧ wr.ownsRow (Bs j) 3 1 (R j) (ms j) (ils (ch (ms j) (X j)) (ms j)) ∧ ∀ b, (R j).ownBlock = some b → b < Bs (j + 1)) ∧ Below w.heap.size w wr)) (fun i _ => n - (intOf i).toNat)
  case atStart =>
    obtain ⟨f, hf⟩ := HR.out
    exact ⟨0, rfl, by omega, ⟨f, fun _ => .bool false, fun _ => w1.heap.size, hf, hlt1, fun j hj => by omega, Nat.le_refl _, fun j hj => by omega⟩, HB.out⟩
  case round =>
    obtain ⟨k, rfl, hk, hrel⟩ := hrel
    obtain ⟨⟨f, R, Bs, hf, hb0, hmon, hbk, hrows⟩, hbl⟩ := hrel.out
    by_cases h1 : k < n
    · obtain ⟨b, off, Q, rfl, hlt, hcell⟩ := HC.out (by omega)
      obtain ⟨hc1, hfp⟩ := hcell k h1
      obtain ⟨qa, qc, hq, hqc, hqq⟩ := hfp
      have c : wr.cell? ⟨b, off + k, none⟩ = some (.slice qa (ms k) qc) := by rw [hbl.cell (p := ⟨b, off + k, none⟩) hlt, hc1, hq]
      have hIl : Il wr (.slice qa (ms k) qc) (ms k) (X k) := Il.below (w := w) ⟨qa, qc, rfl, hqc, hqq⟩ hbl
      have i1 := HCH.out.run hIl (HMS.out k h1) h4 hM (HX.out k h1)
      have HF : Hid (Ov wr w.heap.size w.heap.size n n f) := hf
      have HROW : Hid (∀ j, j < k → f j = R j ∧ wr.ownsRow (Bs j) 3 1 (R j) (ms j) (ils (ch (ms j) (X j)) (ms j)) ∧ ∀ b, (R j).ownBlock = some b → b < Bs (j + 1)) := hrows
      have HMON : Hid (∀ j, j < k → Bs j ≤ Bs (j + 1)) := hmon
      have HBL : Hid (Below w.heap.size w wr) := hbl
      have HB0 : Hid (w.heap.size < Bs 0) := hb0
      have HBK : Hid (Bs k ≤ wr.heap.size) := hbk
      clear hf hrows hbl hrel hcell hc1 hqq hq hIl hmon hb0 hbk
      go_wp2_with (go_at_call 19; (with_reducible refine i1.mono ?_); rintro e w2 ⟨v2, rfl, ho2, hb2⟩; have V2 : Hid (w2.ownsRow wr.heap.size 3 1 v2 (ms k) (ils (ch (ms k) (X k)) (ms k))) := ho2; obtain ⟨va, vc, rfl, hvc, hvv⟩ := il_of_own ho2; have o2 : Ov w2 w.heap.size w.heap.size n n f := own_below HF.out hb2; have d0 := o2.cell h1; have z0 := World.ownsRow.frozenAt o2 k; have OP : Hid (Ov (w2.setCell ⟨w.heap.size, k, none⟩ (.slice va (ms k) vc)) w.heap.size w.heap.size n n (fun i => if i = k then (.slice va (ms k) vc) else f i)) := o2.put k (.slice va (ms k) vc); have B2 : Hid (Below wr.heap.size wr w2) := hb2; clear o2 hb2 hvv ho2)
      go_roundw
      case rel =>
        have hsz := B2.out.size
        have on : Only w.heap.size w2 (w2.setCell ⟨w.heap.size, k, none⟩ (.slice va (ms k) vc)) := (Only.refl _ _).put k _
        refine ⟨k + 1, by go_num, by omega, ⟨_, fun j => if j = k then .slice va (ms k) vc else R j, fun j => if j = k + 1 then w2.heap.size else Bs j, OP.out, ?_, fun j hj => ?_, ?_, fun j hj => ?_⟩, (bstep HBL.out B2.out).setCell (Nat.le_refl _) _⟩
        · show w.heap.size < (if (0 : Nat) = k + 1 then w2.heap.size else Bs 0)
          rw [if_neg (by omega)]; exact HB0.out
        · show (if j = k + 1 then w2.heap.size else Bs j) ≤ (if j + 1 = k + 1 then w2.heap.size else Bs (j + 1))
          rw [if_neg (by omega)]
          by_cases hjk : j = k
          · subst hjk
            rw [if_pos rfl]
            exact Nat.le_trans HBK.out hsz
          · rw [if_neg (by omega)]
            exact HMON.out j (by omega)
        · show (if k + 1 = k + 1 then w2.heap.size else Bs (k + 1)) ≤ _
          rw [if_pos rfl]
          simp [World.setCell]
        · have hBs : ∀ i, i ≤ k → w.heap.size < Bs i := fun i => by
            induction i with
            | zero => intro _; exact HB0.out
            | succ i ih => intro hi; exact Nat.lt_of_lt_of_le (ih (by omega)) (HMON.out i (by omega))
          show (if j = k then _ else f j) = (if j = k then _ else R j) ∧ World.ownsRow _ (if j = k + 1 then w2.heap.size else Bs j) 3 1 (if j = k then _ else R j) _ _ ∧ ∀ b, (if j = k then _ else R j).ownBlock = some b → b < (if j + 1 = k + 1 then w2.heap.size else Bs (j + 1))
          by_cases hjk : j = k
          · subst hjk
            rw [if_pos rfl, if_pos rfl, if_neg (by omega), if_pos rfl]
            have hv := own_base V2.out HBK.out
            refine ⟨rfl, own_only hv on (hBs j (Nat.le_refl _)), fun b hb => ?_⟩
            exact (World.ownsRow.lt V2.out b hb).2
          · rw [if_neg hjk, if_neg hjk, if_neg (by omega), if_neg (by omega)]
            obtain ⟨r1, r2, r3⟩ := HROW.out j (by omega)
            exact ⟨r1, own_only (own_below r2 B2.out) on (hBs j (by omega)), r3⟩
      case measure => simp [intOf]; omega
    · obtain rfl : n = k := by omega
      have HF : Hid (Ov wr w.heap.size w.heap.size n n f) := hf
      have HROW : Hid (∀ j, j < n → f j = R j ∧ wr.ownsRow (Bs j) 3 1 (R j) (ms j) (ils (ch (ms j) (X j)) (ms j)) ∧ ∀ b, (R j).ownBlock = some b → b < Bs (j + 1)) := hrows
      have HMON : Hid (∀ j, j < n → Bs j ≤ Bs (j + 1)) := hmon
      have HBL : Hid (Below w.heap.size w wr) := hbl
      have HB0 : Hid (w.heap.size < Bs 0) := hb0
      have HBK : Hid (Bs n ≤ wr.heap.size) := hbk
      clear hf hrows hbl hrel hmon hb0 hbk
      go_wp2
      go_ret
      exact ⟨_, rfl, ⟨w.heap.size, n, R, Bs, rfl, Nat.le_refl _, Nat.le_refl _, HB0.out, HMON.out, HBK.out, (World.ownsRow.lt HF.out _ rfl).2, fun j hj => ⟨by rw [HF.out.cell hj, (HROW.out j hj).1], (HROW.out j hj).2⟩⟩, HBL.out⟩

set_option maxRecDepth 20000 in
set_option maxHeartbeats 4000000 in
theorem iRows30 {w : World} {v : Value} {n : Nat} {ms : Nat → Nat} {X : Nat → Nat → Int} {ch : Nat → (Nat → Int) → Nat → Int} {kind M : Int} (hch : Chg 26 ch kind) (hv : Ipp w v n ms X) (hn : n ≤ 1048576) (hms : ∀ k, k < n → ms k ≤ 1048576) (h4 : 4 ≤ M) (hM : M ≤ 1000000000000000) (hx : ∀ k, k < n → Wth M (ms k) (X k)) :
    Calls Try.prog 18 #[.int .i64 kind, v, .func (.func 26) #[] #[]] w fun e w' => ∃ v', e = .returned v' ∧ OPI w' w.heap.size w'.heap.size v' n ms (fun k => ch (ms k) (X k)) ∧ Below w.heap.size w w' := by
  obtain ⟨i0, hi, hz0, hz1, hz2⟩ := info_parts Try.info29
  obtain ⟨ao, cap, rfl, hcap, hc⟩ := hv
  have HC : Hid (0 < n → ∃ b off, ∃ R : Nat → Value, ao = some ⟨b, off, none⟩ ∧ b < w.heap.size ∧ ∀ k, k < n → w.cell? ⟨b, off + k, none⟩ = some (R k) ∧ Il w (R k) (ms k) (X k)) := hc
  clear hc
  obtain ⟨w1, hm, hrow, hgr⟩ := run_makeSlice_full (P := Try.prog) w w.heap.size 24 29 i0 (.slice none 0 0) 1 Try.underlying24 hi hz0 hz1 .i64 .i64 n (by omega) (by rw [hz2]; omega) (by unfold maxLen; omega) (Nat.le_refl _)
  have hbl : Below w.heap.size w w1 := (Below.refl _ _).grown hgr (Nat.le_refl _) (fun _ h => by cases h)
  generalize hL : (madeCells (Value.slice none 0 0).cells (n * 1)).toList = L at hrow
  have hLn : L.length = n := by rw [← hL, Array.length_toList, size_madeCells, Nat.mul_one]
  rw [list_fun L, hLn] at hrow
  have HR : Hid (∃ f, Ov w1 w.heap.size w.heap.size n n f) := ⟨_, hrow⟩
  have hlt1 : w.heap.size < w1.heap.size := (World.ownsRow.lt hrow _ rfl).2
  have HB : Hid (Below w.heap.size w w1) := hbl
  have HMS : Hid (∀ k, k < n → ms k ≤ 1048576) := hms
  have HCH : Hid (Chg 26 ch kind) := hch
  have HX : Hid (∀ k, k < n → Wth M (ms k) (X k)) := hx
  clear hrow hbl hL hgr hi hz0 hz1 hz2 hLn hms hch hx
  have hST := rStoreS
  go_enter Try.func18, Try.ntmps18
  go_wp2
  go_loopw [14] (fun i wr => ∃ k : Nat, i = .int .i64 k ∧ k ≤ n ∧ Hid ((∃ (f R : Nat → Value) (Bs : Nat → Nat), Ov wr w.heap.size w.heap.size n n f ∧ w.heap.size < Bs 0 ∧ (∀ j, j < k → Bs j ≤ Bs (j + 1)) ∧ Bs k ≤ wr.heap.size ∧ ∀ j, j < k → f j = R j ∧ wr.ownsRow (Bs j) 3 1 (R j) (ms j) (ils (ch (ms j) (X j)) (ms j)) ∧ ∀ b, (R j).ownBlock = some b → b < Bs (j + 1)) ∧ Below w.heap.size w wr)) (fun i _ => n - (intOf i).toNat)
  case atStart =>
    obtain ⟨f, hf⟩ := HR.out
    exact ⟨0, rfl, by omega, ⟨f, fun _ => .bool false, fun _ => w1.heap.size, hf, hlt1, fun j hj => by omega, Nat.le_refl _, fun j hj => by omega⟩, HB.out⟩
  case round =>
    obtain ⟨k, rfl, hk, hrel⟩ := hrel
    obtain ⟨⟨f, R, Bs, hf, hb0, hmon, hbk, hrows⟩, hbl⟩ := hrel.out
    by_cases h1 : k < n
    · obtain ⟨b, off, Q, rfl, hlt, hcell⟩ := HC.out (by omega)
      obtain ⟨hc1, hfp⟩ := hcell k h1
      obtain ⟨qa, qc, hq, hqc, hqq⟩ := hfp
      have c : wr.cell? ⟨b, off + k, none⟩ = some (.slice qa (ms k) qc) := by rw [hbl.cell (p := ⟨b, off + k, none⟩) hlt, hc1, hq]
      have hIl : Il wr (.slice qa (ms k) qc) (ms k) (X k) := Il.below (w := w) ⟨qa, qc, rfl, hqc, hqq⟩ hbl
      have i1 := HCH.out.run hIl (HMS.out k h1) h4 hM (HX.out k h1)
      have HF : Hid (Ov wr w.heap.size w.heap.size n n f) := hf
      have HROW : Hid (∀ j, j < k → f j = R j ∧ wr.ownsRow (Bs j) 3 1 (R j) (ms j) (ils (ch (ms j) (X j)) (ms j)) ∧ ∀ b, (R j).ownBlock = some b → b < Bs (j + 1)) := hrows
      have HMON : Hid (∀ j, j < k → Bs j ≤ Bs (j + 1)) := hmon
      have HBL : Hid (Below w.heap.size w wr) := hbl
      have HB0 : Hid (w.heap.size < Bs 0) := hb0
      have HBK : Hid (Bs k ≤ wr.heap.size) := hbk
      clear hf hrows hbl hrel hcell hc1 hqq hq hIl hmon hb0 hbk
      go_wp2_with (go_at_call 26; (with_reducible refine i1.mono ?_); rintro e w2 ⟨v2, rfl, ho2, hb2⟩; have V2 : Hid (w2.ownsRow wr.heap.size 3 1 v2 (ms k) (ils (ch (ms k) (X k)) (ms k))) := ho2; obtain ⟨va, vc, rfl, hvc, hvv⟩ := il_of_own ho2; have o2 : Ov w2 w.heap.size w.heap.size n n f := own_below HF.out hb2; have d0 := o2.cell h1; have z0 := World.ownsRow.frozenAt o2 k; have OP : Hid (Ov (w2.setCell ⟨w.heap.size, k, none⟩ (.slice va (ms k) vc)) w.heap.size w.heap.size n n (fun i => if i = k then (.slice va (ms k) vc) else f i)) := o2.put k (.slice va (ms k) vc); have B2 : Hid (Below wr.heap.size wr w2) := hb2; clear o2 hb2 hvv ho2)
      go_roundw
      case rel =>
        have hsz := B2.out.size
        have on : Only w.heap.size w2 (w2.setCell ⟨w.heap.size, k, none⟩ (.slice va (ms k) vc)) := (Only.refl _ _).put k _
        refine ⟨k + 1, by go_num, by omega, ⟨_, fun j => if j = k then .slice va (ms k) vc else R j, fun j => if j = k + 1 then w2.heap.size else Bs j, OP.out, ?_, fun j hj => ?_, ?_, fun j hj => ?_⟩, (bstep HBL.out B2.out).setCell (Nat.le_refl _) _⟩
        · show w.heap.size < (if (0 : Nat) = k + 1 then w2.heap.size else Bs 0)
          rw [if_neg (by omega)]; exact HB0.out
        · show (if j = k + 1 then w2.heap.size else Bs j) ≤ (if j + 1 = k + 1 then w2.heap.size else Bs (j + 1))
          rw [if_neg (by omega)]
          by_cases hjk : j = k
          · subst hjk
            rw [if_pos rfl]
            exact Nat.le_trans HBK.out hsz
          · rw [if_neg (by omega)]
            exact HMON.out j (by omega)
        · show (if k + 1 = k + 1 then w2.heap.size else Bs (k + 1)) ≤ _
          rw [if_pos rfl]
          simp [World.setCell]
        · have hBs : ∀ i, i ≤ k → w.heap.size < Bs i := fun i => by
            induction i with
            | zero => intro _; exact HB0.out
            | succ i ih => intro hi; exact Nat.lt_of_lt_of_le (ih (by omega)) (HMON.out i (by omega))
          show (if j = k then _ else f j) = (if j = k then _ else R j) ∧ World.ownsRow _ (if j = k + 1 then w2.heap.size else Bs j) 3 1 (if j = k then _ else R j) _ _ ∧ ∀ b, (if j = k then _ else R j).ownBlock = some b → b < (if j + 1 = k + 1 then w2.heap.size else Bs (j + 1))
          by_cases hjk : j = k
          · subst hjk
            rw [if_pos rfl, if_pos rfl, if_neg (by omega), if_pos rfl]
            have hv := own_base V2.out HBK.out
            refine ⟨rfl, own_only hv on (hBs j (Nat.le_refl _)), fun b hb => ?_⟩
            exact (World.ownsRow.lt V2.out b hb).2
          · rw [if_neg hjk, if_neg hjk, if_neg (by omega), if_neg (by omega)]
            obtain ⟨r1, r2, r3⟩ := HROW.out j (by omega)
            exact ⟨r1, own_only (own_below r2 B2.out) on (hBs j (by omega)), r3⟩
      case measure => simp [intOf]; omega
    · obtain rfl : n = k := by omega
      have HF : Hid (Ov wr w.heap.size w.heap.size n n f) := hf
      have HROW : Hid (∀ j, j < n → f j = R j ∧ wr.ownsRow (Bs j) 3 1 (R j) (ms j) (ils (ch (ms j) (X j)) (ms j)) ∧ ∀ b, (R j).ownBlock = some b → b < Bs (j + 1)) := hrows
      have HMON : Hid (∀ j, j < n → Bs j ≤ Bs (j + 1)) := hmon
      have HBL : Hid (Below w.heap.size w wr) := hbl
      have HB0 : Hid (w.heap.size < Bs 0) := hb0
      have HBK : Hid (Bs n ≤ wr.heap.size) := hbk
      clear hf hrows hbl hrel hmon hb0 hbk
      go_wp2
      go_ret
      exact ⟨_, rfl, ⟨w.heap.size, n, R, Bs, rfl, Nat.le_refl _, Nat.le_refl _, HB0.out, HMON.out, HBK.out, (World.ownsRow.lt HF.out _ rfl).2, fun j hj => ⟨by rw [HF.out.cell hj, (HROW.out j hj).1], (HROW.out j hj).2⟩⟩, HBL.out⟩

end Go.Proofs.Ytjpkoladmeeidaa
