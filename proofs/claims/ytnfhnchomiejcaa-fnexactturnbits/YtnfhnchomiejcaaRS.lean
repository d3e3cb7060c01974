/- Rows of lists of ints. -/
import Derived.Test.YtnfhnchomiejcaaMK
import Derived.Test.YtnfhnchomiejcaaI1
import Derived.BigRegion
namespace Go.Proofs.Ytnfhnchomiejcaa
open Go.RowKit

theorem set_fun (f : Nat → Value) (n j : Nat) (u : Value) : ((List.range n).map f).set j u = (List.range n).map (fun i => if i = j then u else f i) := by
  apply List.ext_getElem
  · simp
  · intro i h1 h2
    simp only [List.getElem_set, List.getElem_map, List.getElem_range]
    by_cases h : j = i
    · subst h; simp
    · simp [h, Ne.symm h]

theorem list_fun (L : List Value) : L = (List.range L.length).map (fun i => L.getD i (.bool false)) := by
  apply List.ext_getElem
  · simp
  · intro i h1 h2
    simp [h1]

/-- The slice holds n lists of ints. -/
def Ipp (w : World) (v : Value) (n : Nat) (ms : Nat → Nat) (X : Nat → Nat → Int) : Prop := ∃ ao cap, v = .slice ao n cap ∧ n ≤ cap ∧ (0 < n → ∃ b off, ∃ R : Nat → Value, ao = some ⟨b, off, none⟩ ∧ b < w.heap.size ∧ ∀ k, k < n → w.cell? ⟨b, off + k, none⟩ = some (R k) ∧ Il w (R k) (ms k) (X k))

theorem Ipp.below {w w' : World} {v : Value} {n : Nat} {ms : Nat → Nat} {X : Nat → Nat → Int} (h : Ipp w v n ms X) (hb : Below w.heap.size w w') : Ipp w' v n ms X := by
  obtain ⟨ao, cap, rfl, hcap, hc⟩ := h
  refine ⟨ao, cap, rfl, hcap, fun h0 => ?_⟩
  obtain ⟨b, off, R, rfl, hlt, hcell⟩ := hc h0
  exact ⟨b, off, R, rfl, Nat.lt_of_lt_of_le hlt hb.size, fun k hk => ⟨(hb.cell (p := ⟨b, off + k, none⟩) hlt).trans (hcell k hk).1, (hcell k hk).2.below hb⟩⟩

/-- A row of slices that the call made, each list of ints in memory of its own, one behind the other. -/
def OPI (w : World) (B H : Nat) (v : Value) (n : Nat) (ms : Nat → Nat) (X : Nat → Nat → Int) : Prop := ∃ (g cap : Nat) (R : Nat → Value) (Bs : Nat → Nat), v = .slice (some ⟨g, 0, none⟩) n cap ∧ n ≤ cap ∧ B ≤ g ∧ g < Bs 0 ∧ (∀ k, k < n → Bs k ≤ Bs (k + 1)) ∧ Bs n ≤ H ∧ g < w.heap.size ∧ ∀ k, k < n → w.cell? ⟨g, k, none⟩ = some (R k) ∧ w.ownsRow (Bs k) 3 1 (R k) (ms k) (ils (X k) (ms k)) ∧ ∀ b, (R k).ownBlock = some b → b < Bs (k + 1)

theorem OPI.ipp {w : World} {B H : Nat} {v : Value} {n : Nat} {ms : Nat → Nat} {X : Nat → Nat → Int} (h : OPI w B H v n ms X) : Ipp w v n ms X := by
  obtain ⟨g, cap, R, Bs, rfl, hcap, _, _, _, _, hlt, hr⟩ := h
  exact ⟨_, cap, rfl, hcap, fun _ => ⟨g, 0, R, rfl, hlt, fun k hk => ⟨by rw [Nat.zero_add]; exact (hr k hk).1, il_of_own (hr k hk).2.1⟩⟩⟩

theorem OPI.below {w w' : World} {B H : Nat} {v : Value} {n : Nat} {ms : Nat → Nat} {X : Nat → Nat → Int} (h : OPI w B H v n ms X) (hb : Below w.heap.size w w') : OPI w' B H v n ms X := by
  obtain ⟨g, cap, R, Bs, rfl, hcap, h1, h2, h3, h4, hlt, hr⟩ := h
  exact ⟨g, cap, R, Bs, rfl, hcap, h1, h2, h3, h4, Nat.lt_of_lt_of_le hlt hb.size, fun k hk => ⟨(hb.cell (p := ⟨g, k, none⟩) hlt).trans (hr k hk).1, own_below (hr k hk).2.1 hb, (hr k hk).2.2⟩⟩

theorem Try.info29 : (Try.prog.info? 29).map (fun i => (i.zero, i.size, i.bytes)) = some (some (.slice none 0 0), 1, 24) := by kernel_rfl

/-- Values in a row of one cell each. -/
def Ov (W : World) (B g n cap : Nat) (f : Nat → Value) : Prop := W.ownsRow B 29 1 (.slice (some ⟨g, 0, none⟩) n cap) n ((List.range n).map f)

theorem Ov.cell {W : World} {B g n cap : Nat} {f : Nat → Value} (h : Ov W B g n cap f) {j : Nat} (hj : j < n) : W.cell? ⟨g, j, none⟩ = some (f j) := by
  rw [World.ownsRow.cellAt h j (by omega)]
  simp [hj]

theorem Ov.put {W : World} {B g n cap : Nat} {f : Nat → Value} (h : Ov W B g n cap f) (j : Nat) (u : Value) : Ov (W.setCell ⟨g, j, none⟩ u) B g n cap (fun i => if i = j then u else f i) := by
  have := (World.ownsRow.stored h j u).1
  rw [set_fun] at this
  exact this

theorem rStoreS (a : Addr) (ao : Option Addr) (n c : Nat) (m : Mode) (w : World) : (store a (.slice ao n c) m).run Try.prog w = stored Try.prog w a (.slice ao n c) m := run_store Try.prog w a _ m rfl

set_option maxRecDepth 20000 in
set_option maxHeartbeats 2000000 in
/-- A copy of all rows, in memory of its own. -/
theorem copyS_own {w : World} {v : Value} {n : Nat} {ms : Nat → Nat} {X : Nat → Nat → Int} (hv : Ipp w v n ms X) (hn : n ≤ 1048576) (hms : ∀ k, k < n → ms k ≤ 1048576) :
    Calls Try.prog 17 #[v] w fun e w' => ∃ v', e = .returned v' ∧ OPI w' w.heap.size w'.heap.size v' n ms X ∧ Below w.heap.size w w' := by
  obtain ⟨i0, hi, hz0, hz1, hz2⟩ := info_parts Try.info29
  obtain ⟨ao, cap, rfl, hcap, hc⟩ := hv
  have HC : Hid (0 < n → ∃ b off, ∃ R : Nat → Value, ao = some ⟨b, off, none⟩ ∧ b < w.heap.size ∧ ∀ k, k < n → w.cell? ⟨b, off + k, none⟩ = some (R k) ∧ Il w (R k) (ms k) (X k)) := hc
  clear hc
  obtain ⟨w1, hm, hrow, hgr⟩ := run_makeSlice_full (P := Try.prog) w w.heap.size 24 29 i0 (.slice none 0 0) 1 Try.underlying24 hi hz0 hz1 .i64 .i64 n (by omega) (by rw [hz2]; omega) (by unfold maxLen; omega) (Nat.le_refl _)
  have hbl : Below w.heap.size w w1 := (Below.refl _ _).grown hgr (Nat.le_refl _) (fun _ h => by cases h)
  generalize hL : (madeCells (Value.slice none 0 0).cells (n * 1)).toList = L at hrow
  have hLn : L.length = n := by rw [← hL, Array.length_toList, size_madeCells, Nat.mul_one]
  rw [list_fun L, hLn] at hrow
  have HR : Hid (∃ f, Ov w1 w.heap.size w.heap.size n n f) := ⟨_, hrow⟩
  have hlt1 : w.heap.size < w1.heap.size := (World.ownsRow.lt hrow _ rfl).2
  have HB : Hid (Below w.heap.size w w1) := hbl
  have HMS : Hid (∀ k, k < n → ms k ≤ 1048576) := hms
  clear hrow hbl hL hgr hi hz0 hz1 hz2 hLn hms
  have hST := rStoreS
  go_enter Try.func17, Try.ntmps17
  go_wp2
  go_loopw [4] (fun i wr => ∃ k : Nat, i = .int .i64 k ∧ k ≤ n ∧ Hid ((∃ (f R : Nat → Value) (Bs : Nat → Nat), Ov wr w.heap.size w.heap.size n n f ∧ w.heap.size < Bs 0 ∧ (∀ j, j < k → Bs j ≤ Bs (j + 1)) ∧ Bs k ≤ wr.heap.size ∧ ∀ j, j < k → f j = R j ∧ wr.ownsRow (Bs j) 3 1 (R j) (ms j) (ils (X j) (ms j)) ∧ ∀ b, (R j).ownBlock = some b → b < Bs (j + 1)) ∧ Below w.heap.size w wr)) (fun i _ => n - (intOf i).toNat)
  case atStart =>
    obtain ⟨f, hf⟩ := HR.out
    exact ⟨0, rfl, by omega, ⟨f, fun _ => .bool false, fun _ => w1.heap.size, hf, hlt1, fun j hj => by omega, Nat.le_refl _, fun j hj => by omega⟩, HB.out⟩
  case round =>
    obtain ⟨k, rfl, hk, hrel⟩ := hrel
    obtain ⟨⟨f, R, Bs, hf, hb0, hmon, hbk, hrows⟩, hbl⟩ := hrel.out
    by_cases h1 : k < n
    · obtain ⟨b, off, Q, rfl, hlt, hcell⟩ := HC.out (by omega)
      obtain ⟨hc1, hfp⟩ := hcell k h1
      obtain ⟨qa, qc, hq, hqc, hqq⟩ := hfp
      have c : wr.cell? ⟨b, off + k, none⟩ = some (.slice qa (ms k) qc) := by rw [hbl.cell (p := ⟨b, off + k, none⟩) hlt, hc1, hq]
      have hIl : Il wr (.slice qa (ms k) qc) (ms k) (X k) := Il.below (w := w) ⟨qa, qc, rfl, hqc, hqq⟩ hbl
      have i1 := copy_own hIl (HMS.out k h1)
      have HF : Hid (Ov wr w.heap.size w.heap.size n n f) := hf
      have HROW : Hid (∀ j, j < k → f j = R j ∧ wr.ownsRow (Bs j) 3 1 (R j) (ms j) (ils (X j) (ms j)) ∧ ∀ b, (R j).ownBlock = some b → b < Bs (j + 1)) := hrows
      have HMON : Hid (∀ j, j < k → Bs j ≤ Bs (j + 1)) := hmon
      have HBL : Hid (Below w.heap.size w wr) := hbl
      have HB0 : Hid (w.heap.size < Bs 0) := hb0
      have HBK : Hid (Bs k ≤ wr.heap.size) := hbk
      clear hf hrows hbl hrel hcell hc1 hqq hq hIl hmon hb0 hbk
      go_wp2_with (go_at_call 21; refine i1.mono ?_; rintro e w2 ⟨hb2, v2, rfl, hf2, ho2⟩; have V2 : Hid (w2.ownsRow wr.heap.size 3 1 v2 (ms k) (ils (X k) (ms k))) := ho2; obtain ⟨va, vc, rfl, hvc, hvv⟩ := hf2; have o2 : Ov w2 w.heap.size w.heap.size n n f := own_below HF.out hb2; have d0 := o2.cell h1; have z0 := World.ownsRow.frozenAt o2 k; have OP : Hid (Ov (w2.setCell ⟨w.heap.size, k, none⟩ (.slice va (ms k) vc)) w.heap.size w.heap.size n n (fun i => if i = k then (.slice va (ms k) vc) else f i)) := o2.put k (.slice va (ms k) vc); have B2 : Hid (Below wr.heap.size wr w2) := hb2; clear o2 hb2 hvv ho2)
      go_roundw
      case rel =>
        have hsz := B2.out.size
        have on : Only w.heap.size w2 (w2.setCell ⟨w.heap.size, k, none⟩ (.slice va (ms k) vc)) := (Only.refl _ _).put k _
        refine ⟨k + 1, by go_num, by omega, ⟨_, fun j => if j = k then .slice va (ms k) vc else R j, fun j => if j = k + 1 then w2.heap.size else Bs j, OP.out, ?_, fun j hj => ?_, ?_, fun j hj => ?_⟩, (bstep HBL.out B2.out).setCell (Nat.le_refl _) _⟩
        · show w.heap.size < (if (0 : Nat) = k + 1 then w2.heap.size else Bs 0)
          rw [if_neg (by omega)]; exact HB0.out
        · show (if j = k + 1 then w2.heap.size else Bs j) ≤ (if j + 1 = k + 1 then w2.heap.size else Bs (j + 1))
          rw [if_neg (by omega)]
          by_cases hjk : j = k
          · subst hjk
            rw [if_pos rfl]
            exact Nat.le_trans HBK.out hsz
          · rw [if_neg (by omega)]
            exact HMON.out j (by omega)
        · show (if k + 1 = k + 1 then w2.heap.size else Bs (k + 1)) ≤ _
          rw [if_pos rfl]
          simp [World.setCell]
        · have hBs : ∀ i, i ≤ k → w.heap.size < Bs i := fun i => by
            induction i with
            | zero => intro _; exact HB0.out
            | succ i ih => intro hi; exact Nat.lt_of_lt_of_le (ih (by omega)) (HMON.out i (by omega))
          show (if j = k then _ else f j) = (if j = k then _ else R j) ∧ World.ownsRow _ (if j = k + 1 then w2.heap.size else Bs j) 3 1 (if j = k then _ else R j) _ _ ∧ ∀ b, (if j = k then _ else R j).ownBlock = some b → b < (if j + 1 = k + 1 then w2.heap.size else Bs (j + 1))
          by_cases hjk : j = k
          · subst hjk
            rw [if_pos rfl, if_pos rfl, if_neg (by omega), if_pos rfl]
            have hv := own_base V2.out HBK.out
            refine ⟨rfl, own_only hv on (hBs j (Nat.le_refl _)), fun b hb => ?_⟩
            exact (World.ownsRow.lt V2.out b hb).2
          · rw [if_neg hjk, if_neg hjk, if_neg (by omega), if_neg (by omega)]
            obtain ⟨r1, r2, r3⟩ := HROW.out j (by omega)
            exact ⟨r1, own_only (own_below r2 B2.out) on (hBs j (by omega)), r3⟩
      case measure => simp [intOf]; omega
    · obtain rfl : n = k := by omega
      have HF : Hid (Ov wr w.heap.size w.heap.size n n f) := hf
      have HROW : Hid (∀ j, j < n → f j = R j ∧ wr.ownsRow (Bs j) 3 1 (R j) (ms j) (ils (X j) (ms j)) ∧ ∀ b, (R j).ownBlock = some b → b < Bs (j + 1)) := hrows
      have HMON : Hid (∀ j, j < n → Bs j ≤ Bs (j + 1)) := hmon
      have HBL : Hid (Below w.heap.size w wr) := hbl
      have HB0 : Hid (w.heap.size < Bs 0) := hb0
      have HBK : Hid (Bs n ≤ wr.heap.size) := hbk
      clear hf hrows hbl hrel hmon hb0 hbk
      go_wp2
      go_ret
      exact ⟨_, rfl, ⟨w.heap.size, n, R, Bs, rfl, Nat.le_refl _, Nat.le_refl _, HB0.out, HMON.out, HBK.out, (World.ownsRow.lt HF.out _ rfl).2, fun j hj => ⟨by rw [HF.out.cell hj, (HROW.out j hj).1], (HROW.out j hj).2⟩⟩, HBL.out⟩

set_option maxHeartbeats 2000000 in
/-- Rows that hold the same: eqIntSS says so. -/
theorem eqS_yes {w : World} {v u : Value} {n : Nat} {ms : Nat → Nat} {X : Nat → Nat → Int} (hv : Ipp w v n ms X) (hu : Ipp w u n ms X) (hn : n ≤ 1048576) (hms : ∀ k, k < n → ms k ≤ 1048576) :
    Calls Try.prog 19 #[v, u] w fun e w' => e = .returned (.bool true) ∧ Below w.heap.size w w' := by
  obtain ⟨ao, cap, rfl, hcap, hc⟩ := hv
  obtain ⟨bo, cap2, rfl, hcap2, hc2⟩ := hu
  have HC : Hid (0 < n → ∃ b off, ∃ R : Nat → Value, ao = some ⟨b, off, none⟩ ∧ b < w.heap.size ∧ ∀ k, k < n → w.cell? ⟨b, off + k, none⟩ = some (R k) ∧ Il w (R k) (ms k) (X k)) := hc
  have HC2 : Hid (0 < n → ∃ b off, ∃ R : Nat → Value, bo = some ⟨b, off, none⟩ ∧ b < w.heap.size ∧ ∀ k, k < n → w.cell? ⟨b, off + k, none⟩ = some (R k) ∧ Il w (R k) (ms k) (X k)) := hc2
  have HMS : Hid (∀ k, k < n → ms k ≤ 1048576) := hms
  clear hc hc2 hms
  go_enter Try.func19, Try.ntmps19
  go_wp2
  go_loopw [5] (fun i wr => ∃ k : Nat, i = .int .i64 k ∧ k ≤ n ∧ Hid (Below w.heap.size w wr)) (fun i _ => n - (intOf i).toNat)
  case atStart => exact ⟨0, rfl, by omega, Below.refl _ _⟩
  case round =>
    obtain ⟨k, rfl, hk, hbl⟩ := hrel
    by_cases h1 : k < n
    · obtain ⟨b, off, R, rfl, hlt, hcell⟩ := HC.out (by omega)
      obtain ⟨b2, off2, R2, rfl, hlt2, hcell2⟩ := HC2.out (by omega)
      obtain ⟨hc1, hfp⟩ := hcell k h1
      obtain ⟨hc2, hfp2⟩ := hcell2 k h1
      have hE : ∀ W, Below w.heap.size w W → Calls Try.prog 22 #[R k, R2 k] W fun e w' => e = .returned (.bool true) ∧ Below W.heap.size W w' := fun W hW => eq_yes (hfp.below hW) (hfp2.below hW) (HMS.out k h1)
      have ra : ∀ X, Below w.heap.size w X → X.cell? ⟨b, off + k, none⟩ = some (R k) ∧ X.cell? ⟨b2, off2 + k, none⟩ = some (R2 k) := fun X hX => ⟨(hX.cell (p := ⟨b, off + k, none⟩) hlt).trans hc1, (hX.cell (p := ⟨b2, off2 + k, none⟩) hlt2).trans hc2⟩
      generalize R k = r1 at hE ra
      generalize R2 k = r2 at hE ra
      have l0 : Below w.heap.size w wr.drew := hbl.out.drew
      clear hcell hcell2 hc1 hc2 hfp hfp2 hlt hlt2
      go_upto_region 6 with fail
      refine wp_region_any (by kernel_rfl) ?_
      change wpAny _ _ _ _ _ _ _ (World.drew _)
      refine wpI_any (I := fun X => Below w.heap.size w X) _ _ _ _ ?_
      refine wpI_take (i := 0) (v := ?_) rfl (by kernel_rfl) (by kernel_rfl) (by kernel_rfl) (fun _ _ _ h => h) ⟨by rfl, ?_⟩ ?_
      rotate_left
      · intro X hI; go_simp; try go_bits
        try rw [if_pos (by omega)]
        try with_reducible rfl
      refine wpI_take (i := 1) (v := ?_) rfl (by kernel_rfl) (by kernel_rfl) (by kernel_rfl) (fun _ _ _ h => h) ⟨by rfl, ?_⟩ ?_
      rotate_left
      · intro X hI; go_simp; try go_bits
        try rw [if_pos (by omega)]
        try with_reducible rfl
      refine wpI_take (i := 2) (v := ?_) rfl (by kernel_rfl) (by kernel_rfl) (by kernel_rfl) (fun _ _ _ h => h) ⟨by rfl, ?_⟩ ?_
      rotate_left
      · intro X hI; go_simp; try go_bits
        try rw [if_pos (by omega)]
        try with_reducible rfl
      refine wpI_take (i := 3) (v := ?_) rfl (by kernel_rfl) (by kernel_rfl) (by kernel_rfl) (fun _ _ _ h => h) ⟨by rfl, ?_⟩ ?_
      rotate_left
      · intro X hI; obtain ⟨q1, q2⟩ := ra X hI; go_simp; try go_bits
        try rw [if_pos (by omega)]
        try with_reducible rfl
      refine wpI_take (i := 4) (v := ?_) rfl (by kernel_rfl) (by kernel_rfl) (by kernel_rfl) (fun _ _ _ h => h) ⟨by rfl, ?_⟩ ?_
      rotate_left
      · intro X hI; go_simp; try go_bits
        try rw [if_pos (by omega)]
        try with_reducible rfl
      refine wpI_take (i := 5) (v := ?_) rfl (by kernel_rfl) (by kernel_rfl) (by kernel_rfl) (fun _ _ _ h => h) ⟨by rfl, ?_⟩ ?_
      rotate_left
      · intro X hI; go_simp; try go_bits
        try rw [if_pos (by omega)]
        try with_reducible rfl
      refine wpI_take (i := 6) (v := ?_) rfl (by kernel_rfl) (by kernel_rfl) (by kernel_rfl) (fun _ _ _ h => h) ⟨by rfl, ?_⟩ ?_
      rotate_left
      · intro X hI; go_simp; try go_bits
        try rw [if_pos (by omega)]
        try with_reducible rfl
      refine wpI_take (i := 7) (v := ?_) rfl (by kernel_rfl) (by kernel_rfl) (by kernel_rfl) (fun _ _ _ h => h) ⟨by rfl, ?_⟩ ?_
      rotate_left
      · intro X hI; obtain ⟨q1, q2⟩ := ra X hI; go_simp; try go_bits
        try rw [if_pos (by omega)]
        try with_reducible rfl
      refine wpI_only (i := 8) rfl (by kernel_rfl) l0 (by rfl) ?_
      intro K hK
      go_simp
      go_wp2_with (go_at_call 22; refine (hE _ l0).mono ?_; rintro e x1 ⟨rfl, hb1⟩; have l1 := bstep l0 hb1)
      refine wpI_only (i := 9) rfl (by kernel_rfl) l1 (by rfl) ?_
      intro K hK
      go_simp
      try go_bits
      refine hK _ _ ?_
      refine wpI_done l1 (by kernel_rfl) ?_ _
      go_wp2
      go_roundw
      case rel => exact ⟨k + 1, by go_num, by omega, l1⟩
      case measure => simp [intOf]; omega
    · obtain rfl : k = n := by omega
      go_wp2
      go_ret
      exact ⟨rfl, hbl.out⟩

/-- Only blocks of a range have turned. -/
structure Rng (B H : Nat) (w w' : World) : Prop where
  os : w'.os = w.os
  tape : w'.tape = w.tape
  output : w'.output = w.output
  size : w.heap.size ≤ w'.heap.size
  block : ∀ k, k < B ∨ H ≤ k → w'.heap[k]? = w.heap[k]?

theorem Rng.refl (B H : Nat) (w : World) : Rng B H w w := ⟨rfl, rfl, rfl, Nat.le_refl _, fun _ _ => rfl⟩
theorem Rng.only {B H g : Nat} {w w1 w2 : World} (h : Rng B H w w1) (ho : Only g w1 w2) (hg : B ≤ g ∧ g < H) : Rng B H w w2 :=
  ⟨ho.os.trans h.os, ho.tape.trans h.tape, ho.output.trans h.output, Nat.le_trans h.size ho.size, fun k hk => (ho.block k (by omega)).trans (h.block k hk)⟩
theorem Rng.below {B H C : Nat} {w w1 w2 : World} (h : Rng B H w1 w2) (hb : Below C w w1) (hC : C ≤ B) : Below C w w2 :=
  hb.trans ⟨h.os, h.tape, h.output, h.size, fun k hk => h.block k (by omega)⟩
theorem Rng.own {B H C s n : Nat} {w w' : World} {e : TypeId} {v : Value} {xs : List Value} (h : Rng B H w w') (ho : w.ownsRow C e s v n xs) (hC : H ≤ C) : w'.ownsRow C e s v n xs := by
  refine ⟨ho.1, ?_⟩
  rcases ho.2 with h' | ⟨g', cap', cur, h', hb', hg', rest⟩
  · exact .inl h'
  · exact .inr ⟨g', cap', cur, h', hb', (h.block g' (by omega)).trans hg', rest⟩

end Go.Proofs.Ytnfhnchomiejcaa
