/- Rows of lists of pairs. -/
import Derived.Test.YtocdamhpcadfbaaQ2
import Derived.BigRegion
namespace Go.Proofs.Ytocdamhpcadfbaa
open Go.RowKit

/-- The slice holds n lists of pairs. -/
def Fpp (w : World) (v : Value) (n : Nat) (ms : Nat → Nat) (X Y : Nat → Nat → Nat) : Prop := ∃ ao cap, v = .slice ao n cap ∧ n ≤ cap ∧ (0 < n → ∃ b off, ∃ R : Nat → Value, ao = some ⟨b, off, none⟩ ∧ b < w.heap.size ∧ ∀ k, k < n → w.cell? ⟨b, off + k, none⟩ = some (R k) ∧ Fp w (R k) (ms k) (X k) (Y k))

theorem Fpp.below {w w' : World} {v : Value} {n : Nat} {ms : Nat → Nat} {X Y : Nat → Nat → Nat} (h : Fpp w v n ms X Y) (hb : Below w.heap.size w w') : Fpp w' v n ms X Y := by
  obtain ⟨ao, cap, rfl, hcap, hc⟩ := h
  refine ⟨ao, cap, rfl, hcap, fun h0 => ?_⟩
  obtain ⟨b, off, R, rfl, hlt, hcell⟩ := hc h0
  exact ⟨b, off, R, rfl, Nat.lt_of_lt_of_le hlt hb.size, fun k hk => ⟨(hb.cell (p := ⟨b, off + k, none⟩) hlt).trans (hcell k hk).1, (hcell k hk).2.below hb⟩⟩

/-- A row of slices that the call made, each list of pairs in memory of its own, one behind the other. -/
def OPP (w : World) (B H : Nat) (v : Value) (n : Nat) (ms : Nat → Nat) (X Y : Nat → Nat → Nat) : Prop := ∃ (g cap : Nat) (R : Nat → Value) (Bs : Nat → Nat), v = .slice (some ⟨g, 0, none⟩) n cap ∧ n ≤ cap ∧ B ≤ g ∧ g < Bs 0 ∧ (∀ k, k < n → Bs k ≤ Bs (k + 1)) ∧ Bs n ≤ H ∧ g < w.heap.size ∧ ∀ k, k < n → w.cell? ⟨g, k, none⟩ = some (R k) ∧ w.ownsRow (Bs k) 45 2 (R k) (ms k) (cl2 (X k) (Y k) (ms k)) ∧ ∀ b, (R k).ownBlock = some b → b < Bs (k + 1)

theorem OPP.fpp {w : World} {B H : Nat} {v : Value} {n : Nat} {ms : Nat → Nat} {X Y : Nat → Nat → Nat} (h : OPP w B H v n ms X Y) : Fpp w v n ms X Y := by
  obtain ⟨g, cap, R, Bs, rfl, hcap, _, _, _, _, hlt, hr⟩ := h
  exact ⟨_, cap, rfl, hcap, fun _ => ⟨g, 0, R, rfl, hlt, fun k hk => ⟨by rw [Nat.zero_add]; exact (hr k hk).1, fp_of_own (hr k hk).2.1⟩⟩⟩

theorem OPP.below {w w' : World} {B H : Nat} {v : Value} {n : Nat} {ms : Nat → Nat} {X Y : Nat → Nat → Nat} (h : OPP w B H v n ms X Y) (hb : Below w.heap.size w w') : OPP w' B H v n ms X Y := by
  obtain ⟨g, cap, R, Bs, rfl, hcap, h1, h2, h3, h4, hlt, hr⟩ := h
  exact ⟨g, cap, R, Bs, rfl, hcap, h1, h2, h3, h4, Nat.lt_of_lt_of_le hlt hb.size, fun k hk => ⟨(hb.cell (p := ⟨g, k, none⟩) hlt).trans (hr k hk).1, own_below (hr k hk).2.1 hb, (hr k hk).2.2⟩⟩

/-- What a list that the call owns holds is what its cells are. -/
theorem own_cl2 {w : World} {B n : Nat} {v : Value} {L : List Value} {xs ys : Nat → Nat} (h : w.ownsRow B 45 2 v n L) (hf : Fp w v n xs ys) : w.ownsRow B 45 2 v n (cl2 xs ys n) := by
  have e : L = cl2 xs ys n := by
    rcases h.2 with ⟨rfl, rfl⟩ | ⟨g, cap, cur, rfl, _⟩
    · have := h.1
      rw [Nat.zero_mul] at this
      rw [List.length_eq_zero_iff.1 this]
      exact (List.length_eq_zero_iff.1 (cl2_length xs ys 0)).symm
    · apply List.ext_getElem?
      intro j
      by_cases hj : j < n * 2
      · obtain ⟨ao, cap', he, _, hc⟩ := hf
        obtain ⟨rfl, -, rfl⟩ := Value.slice.inj he
        obtain ⟨b, off, hb, _, hcell⟩ := hc (by omega)
        obtain ⟨rfl, rfl, -⟩ : g = b ∧ 0 = off ∧ True := by simpa using hb
        have h1 := World.ownsRow.cellAt h j hj
        have h2 := hcell (j / 2) (by omega)
        have h3 := cl2_get xs ys (show j / 2 < n by omega)
        simp only [Nat.zero_add] at h2
        by_cases hp : j % 2 = 0
        · rw [show j / 2 * 2 = j by omega] at h2 h3
          rw [← h1, h2.1, h3.1]
        · rw [show j / 2 * 2 + 1 = j by omega] at h2 h3
          rw [← h1, h2.2, h3.2]
      · rw [List.getElem?_eq_none (by rw [h.1]; omega), List.getElem?_eq_none (by rw [cl2_length]; omega)]
  rw [← e]
  exact h

theorem Try.info26 : (Try.prog.info? 26).map (fun i => (i.zero, i.size, i.bytes)) = some (some (.slice none 0 0), 1, 24) := by kernel_rfl

/-- Values in a row of one cell each. -/
def Ov (W : World) (B g n cap : Nat) (f : Nat → Value) : Prop := W.ownsRow B 26 1 (.slice (some ⟨g, 0, none⟩) n cap) n ((List.range n).map f)

theorem Ov.cell {W : World} {B g n cap : Nat} {f : Nat → Value} (h : Ov W B g n cap f) {j : Nat} (hj : j < n) : W.cell? ⟨g, j, none⟩ = some (f j) := by
  rw [World.ownsRow.cellAt h j (by omega)]
  simp [hj]

theorem Ov.put {W : World} {B g n cap : Nat} {f : Nat → Value} (h : Ov W B g n cap f) (j : Nat) (u : Value) : Ov (W.setCell ⟨g, j, none⟩ u) B g n cap (fun i => if i = j then u else f i) := by
  have := (World.ownsRow.stored h j u).1
  rw [set_fun] at this
  exact this

theorem rStoreS (a : Addr) (ao : Option Addr) (n c : Nat) (m : Mode) (w : World) : (store a (.slice ao n c) m).run Try.prog w = stored Try.prog w a (.slice ao n c) m := run_store Try.prog w a _ m rfl

set_option maxRecDepth 20000 in
set_option maxHeartbeats 2000000 in
/-- A copy of all rows, in memory of its own. -/
theorem copyS_own {w : World} {v : Value} {n : Nat} {ms : Nat → Nat} {X Y : Nat → Nat → Nat} (hv : Fpp w v n ms X Y) (hn : n ≤ 1048576) (hms : ∀ k, k < n → ms k ≤ 1048576) :
    Calls Try.prog 16 #[v] w fun e w' => ∃ v', e = .returned v' ∧ OPP w' w.heap.size w'.heap.size v' n ms X Y ∧ Below w.heap.size w w' := by
  obtain ⟨i0, hi, hz0, hz1, hz2⟩ := info_parts Try.info26
  obtain ⟨ao, cap, rfl, hcap, hc⟩ := hv
  have HC : Hid (0 < n → ∃ b off, ∃ R : Nat → Value, ao = some ⟨b, off, none⟩ ∧ b < w.heap.size ∧ ∀ k, k < n → w.cell? ⟨b, off + k, none⟩ = some (R k) ∧ Fp w (R k) (ms k) (X k) (Y k)) := hc
  clear hc
  obtain ⟨w1, hm, hrow, hgr⟩ := run_makeSlice_full (P := Try.prog) w w.heap.size 37 26 i0 (.slice none 0 0) 1 Try.underlying37 hi hz0 hz1 .i64 .i64 n (by omega) (by rw [hz2]; omega) (by unfold maxLen; omega) (Nat.le_refl _)
  have hbl : Below w.heap.size w w1 := (Below.refl _ _).grown hgr (Nat.le_refl _) (fun _ h => by cases h)
  generalize hL : (madeCells (Value.slice none 0 0).cells (n * 1)).toList = L at hrow
  have hLn : L.length = n := by rw [← hL, Array.length_toList, size_madeCells, Nat.mul_one]
  rw [list_fun L, hLn] at hrow
  have HR : Hid (∃ f, Ov w1 w.heap.size w.heap.size n n f) := ⟨_, hrow⟩
  have hlt1 : w.heap.size < w1.heap.size := (World.ownsRow.lt hrow _ rfl).2
  have HB : Hid (Below w.heap.size w w1) := hbl
  have HMS : Hid (∀ k, k < n → ms k ≤ 1048576) := hms
  clear hrow hbl hL hgr hi hz0 hz1 hz2 hLn hms
  have hST := rStoreS
  go_enter Try.func16, Try.ntmps16
  go_wp2
  go_loopw [4] (fun i wr => ∃ k : Nat, i = .int .i64 k ∧ k ≤ n ∧ Hid ((∃ (f R : Nat → Value) (Bs : Nat → Nat), Ov wr w.heap.size w.heap.size n n f ∧ w.heap.size < Bs 0 ∧ (∀ j, j < k → Bs j ≤ Bs (j + 1)) ∧ Bs k ≤ wr.heap.size ∧ ∀ j, j < k → f j = R j ∧ wr.ownsRow (Bs j) 45 2 (R j) (ms j) (cl2 (X j) (Y j) (ms j)) ∧ ∀ b, (R j).ownBlock = some b → b < Bs (j + 1)) ∧ Below w.heap.size w wr)) (fun i _ => n - (intOf i).toNat)
  case atStart =>
    obtain ⟨f, hf⟩ := HR.out
    exact ⟨0, rfl, by omega, ⟨f, fun _ => .bool false, fun _ => w1.heap.size, hf, hlt1, fun j hj => by omega, Nat.le_refl _, fun j hj => by omega⟩, HB.out⟩
  case round =>
    obtain ⟨k, rfl, hk, hrel⟩ := hrel
    obtain ⟨⟨f, R, Bs, hf, hb0, hmon, hbk, hrows⟩, hbl⟩ := hrel.out
    by_cases h1 : k < n
    · obtain ⟨b, off, Q, rfl, hlt, hcell⟩ := HC.out (by omega)
      obtain ⟨hc1, hfp⟩ := hcell k h1
      obtain ⟨qa, qc, hq, hqc, hqq⟩ := hfp
      have c : wr.cell? ⟨b, off + k, none⟩ = some (.slice qa (ms k) qc) := by rw [hbl.cell (p := ⟨b, off + k, none⟩) hlt, hc1, hq]
      have hFp : Fp wr (.slice qa (ms k) qc) (ms k) (X k) (Y k) := Fp.below (w := w) ⟨qa, qc, rfl, hqc, hqq⟩ hbl
      have i1 := copy_own hFp (HMS.out k h1)
      have HF : Hid (Ov wr w.heap.size w.heap.size n n f) := hf
      have HROW : Hid (∀ j, j < k → f j = R j ∧ wr.ownsRow (Bs j) 45 2 (R j) (ms j) (cl2 (X j) (Y j) (ms j)) ∧ ∀ b, (R j).ownBlock = some b → b < Bs (j + 1)) := hrows
      have HMON : Hid (∀ j, j < k → Bs j ≤ Bs (j + 1)) := hmon
      have HBL : Hid (Below w.heap.size w wr) := hbl
      have HB0 : Hid (w.heap.size < Bs 0) := hb0
      have HBK : Hid (Bs k ≤ wr.heap.size) := hbk
      clear hf hrows hbl hrel hcell hc1 hqq hq hFp hmon hb0 hbk
      go_wp2_with (go_at_call 7; refine i1.mono ?_; rintro e w2 ⟨hb2, v2, L2, rfl, hf2, ho2⟩; have V2 : Hid (w2.ownsRow wr.heap.size 45 2 v2 (ms k) (cl2 (X k) (Y k) (ms k))) := own_cl2 ho2 hf2; obtain ⟨va, vc, rfl, hvc, hvv⟩ := hf2; have o2 : Ov w2 w.heap.size w.heap.size n n f := own_below HF.out hb2; have d0 := o2.cell h1; have z0 := World.ownsRow.frozenAt o2 k; have OP : Hid (Ov (w2.setCell ⟨w.heap.size, k, none⟩ (.slice va (ms k) vc)) w.heap.size w.heap.size n n (fun i => if i = k then (.slice va (ms k) vc) else f i)) := o2.put k (.slice va (ms k) vc); have B2 : Hid (Below wr.heap.size wr w2) := hb2; clear o2 hb2 hvv ho2)
      go_roundw
      case rel =>
        have hsz := B2.out.size
        have on : Only w.heap.size w2 (w2.setCell ⟨w.heap.size, k, none⟩ (.slice va (ms k) vc)) := (Only.refl _ _).put k _
        refine ⟨k + 1, by go_num, by omega, ⟨_, fun j => if j = k then .slice va (ms k) vc else R j, fun j => if j = k + 1 then w2.heap.size else Bs j, OP.out, ?_, fun j hj => ?_, ?_, fun j hj => ?_⟩, (bstep HBL.out B2.out).setCell (Nat.le_refl _) _⟩
        · show w.heap.size < (if (0 : Nat) = k + 1 then w2.heap.size else Bs 0)
          rw [if_neg (by omega)]; exact HB0.out
        · show (if j = k + 1 then w2.heap.size else Bs j) ≤ (if j + 1 = k + 1 then w2.heap.size else Bs (j + 1))
          rw [if_neg (by omega)]
          by_cases hjk : j = k
          · subst hjk
            rw [if_pos rfl]
            exact Nat.le_trans HBK.out hsz
          · rw [if_neg (by omega)]
            exact HMON.out j (by omega)
        · show (if k + 1 = k + 1 then w2.heap.size else Bs (k + 1)) ≤ _
          rw [if_pos rfl]
          simp [World.setCell]
        · have hBs : ∀ i, i ≤ k → w.heap.size < Bs i := fun i => by
            induction i with
            | zero => intro _; exact HB0.out
            | succ i ih => intro hi; exact Nat.lt_of_lt_of_le (ih (by omega)) (HMON.out i (by omega))
          show (if j = k then _ else f j) = (if j = k then _ else R j) ∧ World.ownsRow _ (if j = k + 1 then w2.heap.size else Bs j) 45 2 (if j = k then _ else R j) _ _ ∧ ∀ b, (if j = k then _ else R j).ownBlock = some b → b < (if j + 1 = k + 1 then w2.heap.size else Bs (j + 1))
          by_cases hjk : j = k
          · subst hjk
            rw [if_pos rfl, if_pos rfl, if_neg (by omega), if_pos rfl]
            have hv := own_base V2.out HBK.out
            refine ⟨rfl, own_only hv on (hBs j (Nat.le_refl _)), fun b hb => ?_⟩
            exact (World.ownsRow.lt V2.out b hb).2
          · rw [if_neg hjk, if_neg hjk, if_neg (by omega), if_neg (by omega)]
            obtain ⟨r1, r2, r3⟩ := HROW.out j (by omega)
            exact ⟨r1, own_only (own_below r2 B2.out) on (hBs j (by omega)), r3⟩
      case measure => simp [intOf]; omega
    · obtain rfl : n = k := by omega
      have HF : Hid (Ov wr w.heap.size w.heap.size n n f) := hf
      have HROW : Hid (∀ j, j < n → f j = R j ∧ wr.ownsRow (Bs j) 45 2 (R j) (ms j) (cl2 (X j) (Y j) (ms j)) ∧ ∀ b, (R j).ownBlock = some b → b < Bs (j + 1)) := hrows
      have HMON : Hid (∀ j, j < n → Bs j ≤ Bs (j + 1)) := hmon
      have HBL : Hid (Below w.heap.size w wr) := hbl
      have HB0 : Hid (w.heap.size < Bs 0) := hb0
      have HBK : Hid (Bs n ≤ wr.heap.size) := hbk
      clear hf hrows hbl hrel hmon hb0 hbk
      go_wp2
      go_ret
      exact ⟨_, rfl, ⟨w.heap.size, n, R, Bs, rfl, Nat.le_refl _, Nat.le_refl _, HB0.out, HMON.out, HBK.out, (World.ownsRow.lt HF.out _ rfl).2, fun j hj => ⟨by rw [HF.out.cell hj, (HROW.out j hj).1], (HROW.out j hj).2⟩⟩, HBL.out⟩

set_option maxHeartbeats 2000000 in
/-- Rows that hold the same: eqPairSS says so. -/
theorem eqS_yes {w : World} {v u : Value} {n : Nat} {ms : Nat → Nat} {X Y : Nat → Nat → Nat} (hv : Fpp w v n ms X Y) (hu : Fpp w u n ms X Y) (hn : n ≤ 1048576) (hms : ∀ k, k < n → ms k ≤ 1048576) :
    Calls Try.prog 18 #[v, u] w fun e w' => e = .returned (.bool true) ∧ Below w.heap.size w w' := by
  obtain ⟨ao, cap, rfl, hcap, hc⟩ := hv
  obtain ⟨bo, cap2, rfl, hcap2, hc2⟩ := hu
  have HC : Hid (0 < n → ∃ b off, ∃ R : Nat → Value, ao = some ⟨b, off, none⟩ ∧ b < w.heap.size ∧ ∀ k, k < n → w.cell? ⟨b, off + k, none⟩ = some (R k) ∧ Fp w (R k) (ms k) (X k) (Y k)) := hc
  have HC2 : Hid (0 < n → ∃ b off, ∃ R : Nat → Value, bo = some ⟨b, off, none⟩ ∧ b < w.heap.size ∧ ∀ k, k < n → w.cell? ⟨b, off + k, none⟩ = some (R k) ∧ Fp w (R k) (ms k) (X k) (Y k)) := hc2
  have HMS : Hid (∀ k, k < n → ms k ≤ 1048576) := hms
  clear hc hc2 hms
  go_enter Try.func18, Try.ntmps18
  go_wp2
  go_loopw [5] (fun i wr => ∃ k : Nat, i = .int .i64 k ∧ k ≤ n ∧ Hid (Below w.heap.size w wr)) (fun i _ => n - (intOf i).toNat)
  case atStart => exact ⟨0, rfl, by omega, Below.refl _ _⟩
  case round =>
    obtain ⟨k, rfl, hk, hbl⟩ := hrel
    by_cases h1 : k < n
    · obtain ⟨b, off, R, rfl, hlt, hcell⟩ := HC.out (by omega)
      obtain ⟨b2, off2, R2, rfl, hlt2, hcell2⟩ := HC2.out (by omega)
      obtain ⟨hc1, hfp⟩ := hcell k h1
      obtain ⟨hc2, hfp2⟩ := hcell2 k h1
      have hE : ∀ W, Below w.heap.size w W → Calls Try.prog 10 #[R k, R2 k] W fun e w' => e = .returned (.bool true) ∧ Below W.heap.size W w' := fun W hW => eq_yes (hfp.below hW) (hfp2.below hW) (HMS.out k h1) (fun _ _ => ⟨rfl, rfl⟩)
      have ra : ∀ X, Below w.heap.size w X → X.cell? ⟨b, off + k, none⟩ = some (R k) ∧ X.cell? ⟨b2, off2 + k, none⟩ = some (R2 k) := fun X hX => ⟨(hX.cell (p := ⟨b, off + k, none⟩) hlt).trans hc1, (hX.cell (p := ⟨b2, off2 + k, none⟩) hlt2).trans hc2⟩
      generalize R k = r1 at hE ra
      generalize R2 k = r2 at hE ra
      have l0 : Below w.heap.size w wr.drew := hbl.out.drew
      clear hcell hcell2 hc1 hc2 hfp hfp2 hlt hlt2
      go_upto_region 6 with fail
      refine wp_region_any (by kernel_rfl) ?_
      change wpAny _ _ _ _ _ _ _ (World.drew _)
      refine wpI_any (I := fun X => Below w.heap.size w X) _ _ _ _ ?_
      refine wpI_take (i := 0) (v := ?_) rfl (by kernel_rfl) (by kernel_rfl) (by kernel_rfl) (fun _ _ _ h => h) ⟨by rfl, ?_⟩ ?_
      rotate_left
      · intro X hI; go_simp; try go_bits
        try rw [if_pos (by omega)]
        try with_reducible rfl
      refine wpI_take (i := 1) (v := ?_) rfl (by kernel_rfl) (by kernel_rfl) (by kernel_rfl) (fun _ _ _ h => h) ⟨by rfl, ?_⟩ ?_
      rotate_left
      · intro X hI; go_simp; try go_bits
        try rw [if_pos (by omega)]
        try with_reducible rfl
      refine wpI_take (i := 2) (v := ?_) rfl (by kernel_rfl) (by kernel_rfl) (by kernel_rfl) (fun _ _ _ h => h) ⟨by rfl, ?_⟩ ?_
      rotate_left
      · intro X hI; go_simp; try go_bits
        try rw [if_pos (by omega)]
        try with_reducible rfl
      refine wpI_take (i := 3) (v := ?_) rfl (by kernel_rfl) (by kernel_rfl) (by kernel_rfl) (fun _ _ _ h => h) ⟨by rfl, ?_⟩ ?_
      rotate_left
      · intro X hI; obtain ⟨q1, q2⟩ := ra X hI; go_simp; try go_bits
        try rw [if_pos (by omega)]
        try with_reducible rfl
      refine wpI_take (i := 4) (v := ?_) rfl (by kernel_rfl) (by kernel_rfl) (by kernel_rfl) (fun _ _ _ h => h) ⟨by rfl, ?_⟩ ?_
      rotate_left
      · intro X hI; go_simp; try go_bits
        try rw [if_pos (by omega)]
        try with_reducible rfl
      refine wpI_take (i := 5) (v := ?_) rfl (by kernel_rfl) (by kernel_rfl) (by kernel_rfl) (fun _ _ _ h => h) ⟨by rfl, ?_⟩ ?_
      rotate_left
      · intro X hI; go_simp; try go_bits
        try rw [if_pos (by omega)]
        try with_reducible rfl
      refine wpI_take (i := 6) (v := ?_) rfl (by kernel_rfl) (by kernel_rfl) (by kernel_rfl) (fun _ _ _ h => h) ⟨by rfl, ?_⟩ ?_
      rotate_left
      · intro X hI; go_simp; try go_bits
        try rw [if_pos (by omega)]
        try with_reducible rfl
      refine wpI_take (i := 7) (v := ?_) rfl (by kernel_rfl) (by kernel_rfl) (by kernel_rfl) (fun _ _ _ h => h) ⟨by rfl, ?_⟩ ?_
      rotate_left
      · intro X hI; obtain ⟨q1, q2⟩ := ra X hI; go_simp; try go_bits
        try rw [if_pos (by omega)]
        try with_reducible rfl
      refine wpI_only (i := 8) rfl (by kernel_rfl) l0 (by rfl) ?_
      intro K hK
      go_simp
      go_wp2_with (go_at_call 10; refine (hE _ l0).mono ?_; rintro e x1 ⟨rfl, hb1⟩; have l1 := bstep l0 hb1)
      refine wpI_only (i := 9) rfl (by kernel_rfl) l1 (by rfl) ?_
      intro K hK
      go_simp
      try go_bits
      refine hK _ _ ?_
      refine wpI_done l1 (by kernel_rfl) ?_ _
      go_wp2
      go_roundw
      case rel => exact ⟨k + 1, by go_num, by omega, l1⟩
      case measure => simp [intOf]; omega
    · obtain rfl : k = n := by omega
      go_wp2
      go_ret
      exact ⟨rfl, hbl.out⟩

set_option maxHeartbeats 2000000 in
theorem markK_any {w : World} {B g n cap : Nat} {f : Nat → Value} (ho : Ow w B g n cap f) (hn : n ≤ 1048576) (K : Int) (hK : 0 ≤ K ∧ K ≤ 1099511627776000) :
    Calls Try.prog 11 #[.slice (some ⟨g, 0, none⟩) n cap, .int .i64 K] w fun e w' => e = .returned (.int .i64 (K + 2 * (n : Int))) ∧ Only g w w' := by
  have HO : Hid (Ow w B g n cap f) := ho
  clear ho
  have hST := rStore
  go_enter Try.func11, Try.ntmps11
  go_wp2
  go_loopw [1, 5] (fun kk i wr => ∃ q : Nat, i = .int .i64 q ∧ kk = .int .i64 (K + 2 * (q : Int)) ∧ q ≤ n ∧ Hid ((∃ f', Ow wr B g n cap f') ∧ Only g w wr)) (fun _ i _ => n - (intOf i).toNat)
  case atStart => exact ⟨0, rfl, by congr 1; omega, by omega, ⟨f, HO.out⟩, Only.refl _ _⟩
  case round =>
    obtain ⟨q, rfl, rfl, hq, hrel⟩ := hrel
    obtain ⟨⟨f', hf⟩, hon⟩ := hrel.out
    by_cases h1 : q < n
    · have d0 := hf.cell (j := q * 2) (by omega)
      have d1 := hf.cell (j := q * 2 + 1) (by omega)
      have z0 := World.ownsRow.frozenAt hf (q * 2)
      have z1 := World.ownsRow.frozenAt hf (q * 2 + 1)
      have OP : Hid (∃ f', Ow _ B g n cap f') := ⟨_, (hf.put (q * 2) (.float .f64 (fk (K + 2 * (q : Int))))).put (q * 2 + 1) (.float .f64 (fk (K + 2 * (q : Int) + 1)))⟩
      have ON : Hid (Only g w _) := (hon.put (q * 2) (.float .f64 (fk (K + 2 * (q : Int))))).put (q * 2 + 1) (.float .f64 (fk (K + 2 * (q : Int) + 1)))
      clear hf hon hrel
      go_wp2
      go_roundw
      case rel => exact ⟨q + 1, by go_num, by first | go_num | (congr 1; omega), by omega, OP.out, ON.out⟩
      case measure => simp [intOf]; omega
    · obtain rfl : q = n := by omega
      have ON : Hid (Only g w wr) := hon
      clear hf hon hrel
      go_wp2
      go_ret
      exact ⟨rfl, ON.out⟩

set_option maxHeartbeats 1000000 in
theorem markK_nil (w : World) (K : Int) : Calls Try.prog 11 #[.slice none 0 0, .int .i64 K] w fun e w' => e = .returned (.int .i64 K) ∧ w' = w := by
  go_enter Try.func11, Try.ntmps11
  go_wp2
  go_loopw [1, 5] (fun kk i wr => i = .int .i64 0 ∧ kk = .int .i64 K ∧ wr = w) (fun _ _ _ => 0)
  case atStart => exact ⟨rfl, rfl, rfl⟩
  case round =>
    obtain ⟨rfl, rfl, rfl⟩ := hrel
    go_wp2
    go_ret
    exact ⟨rfl, rfl⟩

/-- Only blocks of a range have turned. -/
structure Rng (B H : Nat) (w w' : World) : Prop where
  os : w'.os = w.os
  tape : w'.tape = w.tape
  output : w'.output = w.output
  size : w.heap.size ≤ w'.heap.size
  block : ∀ k, k < B ∨ H ≤ k → w'.heap[k]? = w.heap[k]?

theorem Rng.refl (B H : Nat) (w : World) : Rng B H w w := ⟨rfl, rfl, rfl, Nat.le_refl _, fun _ _ => rfl⟩
theorem Rng.only {B H g : Nat} {w w1 w2 : World} (h : Rng B H w w1) (ho : Only g w1 w2) (hg : B ≤ g ∧ g < H) : Rng B H w w2 :=
  ⟨ho.os.trans h.os, ho.tape.trans h.tape, ho.output.trans h.output, Nat.le_trans h.size ho.size, fun k hk => (ho.block k (by omega)).trans (h.block k hk)⟩
theorem Rng.below {B H C : Nat} {w w1 w2 : World} (h : Rng B H w1 w2) (hb : Below C w w1) (hC : C ≤ B) : Below C w w2 :=
  hb.trans ⟨h.os, h.tape, h.output, h.size, fun k hk => h.block k (by omega)⟩
theorem Rng.own {B H C s n : Nat} {w w' : World} {e : TypeId} {v : Value} {xs : List Value} (h : Rng B H w w') (ho : w.ownsRow C e s v n xs) (hC : H ≤ C) : w'.ownsRow C e s v n xs := by
  refine ⟨ho.1, ?_⟩
  rcases ho.2 with h' | ⟨g', cap', cur, h', hb', hg', rest⟩
  · exact .inl h'
  · exact .inr ⟨g', cap', cur, h', hb', (h.block g' (by omega)).trans hg', rest⟩

set_option maxRecDepth 20000 in
set_option maxHeartbeats 2000000 in
/-- Rows marked: only their own memory turns. -/
theorem markS_any {w : World} {B H : Nat} {v : Value} {n : Nat} {ms : Nat → Nat} {X Y : Nat → Nat → Nat} (ho : OPP w B H v n ms X Y) (hn : n ≤ 1048576) (hms : ∀ k, k < n → ms k ≤ 1048576) :
    Calls Try.prog 19 #[v, .int .i64 1] w fun e w' => (∃ x : Int, e = .returned (.int .i64 x) ∧ 0 ≤ x) ∧ Rng B H w w' := by
  obtain ⟨g, cap, R, Bs, rfl, hcap, h1, h2, h3, h4, hlt, hr⟩ := ho
  have hBs : ∀ i, i ≤ n → g < Bs i := fun i => by
    induction i with
    | zero => intro _; exact h2
    | succ i ih => intro hi; exact Nat.lt_of_lt_of_le (ih (by omega)) (h3 i (by omega))
  have hBm : ∀ j i, i ≤ j → j ≤ n → Bs i ≤ Bs j := fun j => by
    induction j with
    | zero => intro i hi _; obtain rfl : i = 0 := by omega
              exact Nat.le_refl _
    | succ j ih =>
      intro i hi hj
      by_cases he : i = j + 1
      · subst he; exact Nat.le_refl _
      · exact Nat.le_trans (ih i (by omega) (by omega)) (h3 j (by omega))
  have HBS : Hid (∀ i, i ≤ n → g < Bs i) := hBs
  have HBM : Hid (∀ j i, i ≤ j → j ≤ n → Bs i ≤ Bs j) := hBm
  have H1 : Hid (B ≤ g) := h1
  have H4 : Hid (Bs n ≤ H) := h4
  have HRR : Hid (∀ k, k < n → w.cell? ⟨g, k, none⟩ = some (R k) ∧ w.ownsRow (Bs k) 45 2 (R k) (ms k) (cl2 (X k) (Y k) (ms k)) ∧ ∀ b, (R k).ownBlock = some b → b < Bs (k + 1)) := hr
  have HMS : Hid (∀ k, k < n → ms k ≤ 1048576) := hms
  clear hBs hBm h1 h2 h3 h4 hr hms
  go_enter Try.func19, Try.ntmps19
  go_wp2
  go_loopw [1, 5] (fun kk i wr => ∃ (q : Nat) (x : Int), i = .int .i64 q ∧ kk = .int .i64 x ∧ q ≤ n ∧ 0 ≤ x ∧ x ≤ 1 + 2097152 * (q : Int) ∧ Hid ((∀ k, k < Bs 0 ∨ Bs q ≤ k → wr.heap[k]? = w.heap[k]?) ∧ Rng B H w wr)) (fun _ i _ => n - (intOf i).toNat)
  case atStart => exact ⟨0, 1, rfl, rfl, by omega, by omega, by omega, fun _ _ => rfl, Rng.refl _ _ _⟩
  case round =>
    obtain ⟨q, x, rfl, rfl, hq, hx0, hx1, hrel⟩ := hrel
    by_cases h1 : q < n
    · obtain ⟨r1, r2, r3⟩ := HRR.out q h1
      have hm := HMS.out q h1
      have hg0 := HBS.out 0 (by omega)
      have hcb : wr.cell? ⟨g, q, none⟩ = w.cell? ⟨g, q, none⟩ := World.cell?_of_block (w := w) (hrel.out.1 g (.inl hg0))
      have c : wr.cell? ⟨g, q, none⟩ = some (R q) := hcb.trans r1
      clear hcb
      have hown : wr.ownsRow (Bs q) 45 2 (R q) (ms q) (cl2 (X q) (Y q) (ms q)) := by
        refine ⟨r2.1, ?_⟩
        rcases r2.2 with h' | ⟨g', cap', cur, h', hb', hg', rest⟩
        · exact .inl h'
        · exact .inr ⟨g', cap', cur, h', hb', (hrel.out.1 g' (.inr hb')).trans hg', rest⟩
      have key : Calls Try.prog 11 #[R q, .int .i64 x] wr fun e w' => e = .returned (.int .i64 (x + 2 * (ms q : Int))) ∧ ((∃ g', Bs q ≤ g' ∧ g' < Bs (q + 1) ∧ Only g' wr w') ∨ w' = wr) := by
        rcases ow_of_own hown with ⟨h0, hv⟩ | ⟨g', cap', f, hv, hg, hlt', how⟩
        · rw [hv, h0]
          refine (markK_nil wr x).mono ?_
          rintro e w' ⟨rfl, rfl⟩
          exact ⟨by simp, .inr rfl⟩
        · have hb := r3 g' (by rw [hv]; rfl)
          rw [hv]
          refine (markK_any how hm x ⟨hx0, by omega⟩).mono ?_
          rintro e w' ⟨rfl, hon⟩
          exact ⟨rfl, .inl ⟨g', hg, hb, hon⟩⟩
      have hqn := HBM.out n (q + 1) (by omega) (Nat.le_refl _)
      have hq0 := HBM.out q 0 (by omega) hq
      have hq1 := HBM.out (q + 1) q (by omega) (by omega)
      have KEEP : Hid (∀ w' : World, (∃ g', Bs q ≤ g' ∧ g' < Bs (q + 1) ∧ Only g' wr w') ∨ w' = wr → (∀ k, k < Bs 0 ∨ Bs (q + 1) ≤ k → w'.heap[k]? = w.heap[k]?) ∧ Rng B H w w') := fun w' h => by
        rcases h with ⟨g', ha, hb, hon⟩ | rfl
        · exact ⟨fun k hk => (hon.block k (by omega)).trans (hrel.out.1 k (by omega)), hrel.out.2.only hon ⟨by have := H1.out; omega, by have := H4.out; omega⟩⟩
        · exact ⟨fun k hk => hrel.out.1 k (by omega), hrel.out.2⟩
      generalize R q = r at c key
      clear r1 r2 r3 hown hrel
      go_wp2_with (go_at_call 11; refine key.mono ?_; rintro e w2 ⟨rfl, he⟩; have K2 : Hid ((∀ k, k < Bs 0 ∨ Bs (q + 1) ≤ k → w2.heap[k]? = w.heap[k]?) ∧ Rng B H w w2) := KEEP.out w2 he; clear he)
      go_roundw
      case rel => exact ⟨q + 1, _, by go_num, rfl, by omega, by omega, by omega, K2.out⟩
      case measure => simp [intOf]; omega
    · obtain rfl : q = n := by omega
      go_wp2
      go_ret
      exact ⟨⟨_, rfl, hx0⟩, hrel.out.2⟩

theorem sz5_any (m : Nat) (ao : Option Addr) (cap : Nat) (hm : m ≤ 9223372036854775807) (l : Int) (hl : 0 ≤ l ∧ l ≤ 1048576) (w : World) : Calls Try.prog 5 #[.slice ao m cap, .int .i64 l] w fun e w' => (∃ x : Int, e = .returned (.int .i64 x) ∧ x ≤ 1048576 ∧ (0 ≤ x → m ≤ 1048576)) ∧ w' = w := by
  by_cases h : l - (m : Int) < 0
  · go_enter Try.func5, Try.ntmps5
    go_wp2
    go_ret
    exact ⟨⟨_, rfl, by omega, by omega⟩, rfl⟩
  · go_enter Try.func5, Try.ntmps5
    go_wp2
    go_ret
    exact ⟨⟨_, rfl, by omega, by omega⟩, rfl⟩

set_option maxHeartbeats 1000000 in
theorem szS_any {w : World} {v : Value} {n : Nat} {ms : Nat → Nat} {X Y : Nat → Nat → Nat} (hv : Fpp w v n ms X Y) (hn : n ≤ 9223372036854775807) (hms : ∀ k, k < n → ms k ≤ 9223372036854775807) :
    Calls Try.prog 14 #[v, .int .i64 1048576] w fun e w' => (∃ x : Int, e = .returned (.int .i64 x) ∧ (0 ≤ x → n ≤ 1048576 ∧ ∀ k, k < n → ms k ≤ 1048576)) ∧ w' = w := by
  obtain ⟨ao, cap, rfl, hcap, hc⟩ := hv
  have HC : Hid (0 < n → ∃ b off, ∃ R : Nat → Value, ao = some ⟨b, off, none⟩ ∧ b < w.heap.size ∧ ∀ k, k < n → w.cell? ⟨b, off + k, none⟩ = some (R k) ∧ Fp w (R k) (ms k) (X k) (Y k)) := hc
  have HMS : Hid (∀ k, k < n → ms k ≤ 9223372036854775807) := hms
  clear hc hms
  by_cases h : n ≤ 1048576
  · go_enter Try.func14, Try.ntmps14
    go_wp2
    go_loopw [1, 5] (fun l i wr => ∃ (k : Nat) (x : Int), i = .int .i64 k ∧ l = .int .i64 x ∧ k ≤ n ∧ 0 ≤ x ∧ x ≤ 1048576 ∧ wr = w ∧ Hid (∀ j, j < k → ms j ≤ 1048576)) (fun _ i _ => n - (intOf i).toNat)
    case atStart => exact ⟨0, _, rfl, rfl, by omega, by omega, by omega, rfl, fun j hj => by omega⟩
    case round =>
      obtain ⟨k, x, rfl, rfl, hk, hx0, hx1, rfl, hal⟩ := hrel
      by_cases h1 : k < n
      · obtain ⟨b, off, R, rfl, hlt, hcell⟩ := HC.out (by omega)
        obtain ⟨c, hfp⟩ := hcell k h1
        obtain ⟨qa, qc, hq, _, _⟩ := hfp
        rw [hq] at c
        have i1 := sz5_any (ms k) qa qc (HMS.out k h1) x ⟨hx0, hx1⟩
        clear hcell hq
        by_cases hs : True
        · go_upto_region 8 with (go_at_call 5; refine (i1 _).mono ?_; rintro e w' ⟨⟨y, rfl, hy1, hy2⟩, hw⟩; obtain rfl := hw.symm)
          by_cases hy : y < 0
          · go_wp2
            go_ret
            exact ⟨⟨_, rfl, fun h => by omega⟩, rfl⟩
          · have HY : Hid (ms k ≤ 1048576) := hy2 (by omega)
            clear hy2
            go_wp2
            go_roundw
            case rel =>
              refine ⟨k + 1, y, by go_num, rfl, by omega, by omega, by omega, by trivial, fun j hj => ?_⟩
              by_cases hjk : j = k
              · subst hjk; exact HY.out
              · exact hal.out j (by omega)
            case measure => simp [intOf]; omega
        · exact absurd trivial hs
      · obtain rfl : n = k := by omega
        go_wp2
        go_ret
        exact ⟨⟨_, rfl, fun _ => ⟨h, hal.out⟩⟩, rfl⟩
  · go_enter Try.func14, Try.ntmps14
    go_wp2
    go_ret
    exact ⟨⟨_, rfl, fun h => by omega⟩, rfl⟩
end Go.Proofs.Ytocdamhpcadfbaa
