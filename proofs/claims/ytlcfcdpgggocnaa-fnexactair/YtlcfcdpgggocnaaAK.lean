/- The program's Air. -/
import Derived.Test.YtlcfcdpgggocnaaAJ
import Derived.Test.YtlcfcdpgggocnaaMS
import Derived.Test.YtlcfcdpgggocnaaDR
import Derived.Laws.AppendOwn
namespace Go.Proofs.Ytlcfcdpgggocnaa
open Go.RowKit

/-- What lies there ahead of the noise, and with it. -/
def airb (D q : Nat) (z : Nat → Int) (i : Nat) : Int := if i < D * 2 then 0 else trn q z (i - D * 2)
def airz (D q : Nat) (z : Nat → Int) (m : Nat) (y : Nat → Int) (i : Nat) : Int := airb D q z i + (if i < m * 2 then y i else 0)

theorem ils_add (f : Nat → Int) (a c : Nat) : ils f (a + c) = ils f a ++ ils (fun i => f (a + i)) c := by
  induction c with
  | zero => simp [ils]
  | succ c ih => rw [← Nat.add_assoc, ils_snoc, ih, ils_snoc, List.append_assoc]

theorem airb_ils (D q n : Nat) (z : Nat → Int) : ils (fun _ => 0) (D * 2) ++ ils (trn q z) (n * 2) = ils (airb D q z) ((D + n) * 2) := by
  rw [Nat.add_mul, ils_add]
  congr 1
  · exact ils_congr (fun i hi => by unfold airb; rw [if_pos hi])
  · exact ils_congr (fun i _ => by unfold airb; rw [if_neg (by omega), Nat.add_sub_cancel_left])

theorem airb_in {n q : Nat} {z : Nat → Int} (hp : Pok n z) {D i : Nat} (hi : i < (D + n) * 2) : Smp (airb D q z i) := by
  unfold airb
  by_cases h : i < D * 2
  · rw [if_pos h]; unfold Smp; omega
  · rw [if_neg h]
    obtain ⟨j, hj⟩ : ∃ j, j = (i - D * 2) / 2 := ⟨_, rfl⟩
    have hs := hp j (by omega)
    have ht := t_in (q := q) hs.1 hs.2
    rcases Nat.mod_two_eq_zero_or_one (i - D * 2) with h0 | h0
    · rw [show i - D * 2 = j * 2 by omega, trn_0]; exact ht.1
    · rw [show i - D * 2 = j * 2 + 1 by omega, trn_1]; exact ht.2

theorem ils_one (f : Nat → Int) (n : Nat) : ∀ u ∈ ils f n, u.oneCell' = true := by
  intro u hu
  unfold ils at hu
  obtain ⟨k, _, rfl⟩ := List.mem_map.1 hu
  rfl

theorem P2.one {W : World} {g g' : Nat} {x y : Int} (h : P2 W g x y) (hne : g ≠ g') (j : Nat) (a : Value) : P2 (W.setCell ⟨g', j, none⟩ a) g x y := h.block (Below.heap_setCell _ _ _ _ hne)

theorem own2_lt {w : World} {B g n c : Nat} {f : Nat → Int} (h : w.ownsRow B 34 2 (.slice (some ⟨g, 0, none⟩) n c) n (ils f (n * 2))) (hn : 0 < n) : g < w.heap.size := World.block_lt_of_cell? w _ (own2_cell h (j := 0) (by omega))

theorem own2_ge {w : World} {B g n c s : Nat} {e : TypeId} {L : List Value} (h : w.ownsRow B e s (.slice (some ⟨g, 0, none⟩) n c) n L) (_ : 0 < n) : B ≤ g := by
  rcases h.2 with h' | ⟨g', cap', cur, h', hb', _⟩
  · cases h'.1
  · have e1 : g' = g := by injection h' with h1; injection h1 with h2; injection h2 with h3; exact h3.symm
    subst e1
    exact hb'

/-- The end of Air, by what came out. -/
def Air (w w' : World) (e : Ending) (N : Nat) (z : Nat → Int) : Prop := if N ≤ 4096 ∧ Pok N z then Ppk w w' e N z true else Ppk w w' e 0 z false

set_option maxHeartbeats 8000000 in
theorem iAir_good {w : World} {v u : Value} {n m D q : Nat} {z y : Nat → Int} (hv : Il2 w v n z) (hu : Il2 w u m y) (hg : Gin n z m y (D : Int) (q : Int)) :
    Calls Try.prog 7 #[v, .int .i64 (D : Int), .int .i64 (q : Int), u] w fun e w' => Air w w' e (D + n) (airz D q z m y) := by
  obtain ⟨i0, hi, hz0, hz1, hz2⟩ := info_parts Try.info34
  have i1 := isAir_any (dl := (D : Int)) (q := (q : Int)) hv hu (by have := hg.1.1; omega) (by have := hg.2.1.1; omega)
  rw [decide_eq_true hg] at i1
  obtain ⟨⟨hn, hp⟩, ⟨hm, hpy⟩, _, hD, _, hq, hmn⟩ := hg
  have hD' : D ≤ 200 := by omega
  have hq' : q < 4 := by omega
  have hmn' : m ≤ D + n := by omega
  have i2 : Hid (∀ W, Below w.heap.size w W → Calls Try.prog 16 #[v, .int .i64 (q : Int)] W fun e w' => ∃ g c, e = .returned (.slice (some ⟨g, 0, none⟩) n c) ∧ w'.ownsRow W.heap.size 34 2 (.slice (some ⟨g, 0, none⟩) n c) n (ils (trn q z) (n * 2)) ∧ Below W.heap.size W w') := fun W hW => points_any (hv.below hW) hn hp hq'
  obtain ⟨ao, cap, rfl, hcap, hc⟩ := hv
  obtain ⟨bo, bap, rfl, hbap, hbc⟩ := hu
  have HC : Hid (0 < m → ∃ b off, bo = some ⟨b, off, none⟩ ∧ b < w.heap.size ∧ ∀ k, k < m → w.cell? ⟨b, off + k * 2, none⟩ = some (.int .i64 (y (k * 2))) ∧ w.cell? ⟨b, off + k * 2 + 1, none⟩ = some (.int .i64 (y (k * 2 + 1)))) := hbc
  have HP : Hid (Pok n z) := hp
  have HY : Hid (Pok m y) := hpy
  clear hc hbc hp hpy hD hq hmn
  go_enter Try.func7, Try.ntmps7
  go_upto_region 3 with (first
    | (go_at_call 15; (with_reducible refine i1.mono ?_); rintro e w1 ⟨rfl, hb1⟩; have B1 : Hid (Below w.heap.size w w1) := hb1; clear hb1))
  refine wp_region_any (by kernel_rfl) ?_
  change wpAny _ _ _ _ _ _ _ (World.drew _)
  refine wpI_any (I := fun X => Below w1.heap.size w1 X) _ _ _ _ ?_
  have l0 : Below w1.heap.size w1 w1.drew := (Below.refl _ _).drew
  refine wpI_take (i := 0) (v := .int .i64 (D : Int)) rfl (by kernel_rfl) (by kernel_rfl) (by kernel_rfl) (fun _ _ _ h => h) ⟨by rfl, by intro X hI; go_simp⟩ ?_
  refine wpI_take (i := 2) (v := .slice ao n cap) rfl (by kernel_rfl) (by kernel_rfl) (by kernel_rfl) (fun _ _ _ h => h) ⟨by rfl, by intro X hI; go_simp⟩ ?_
  refine wpI_take (i := 3) (v := .int .i64 (q : Int)) rfl (by kernel_rfl) (by kernel_rfl) (by kernel_rfl) (fun _ _ _ h => h) ⟨by rfl, by intro X hI; go_simp⟩ ?_
  refine wpI_two (i := 1) (j := 4) rfl rfl (by kernel_rfl) l0 (by rfl) (by rfl) ?_ ?_
  · intro K hK
    obtain ⟨W2, hm2, hrow, hgr⟩ := run_makeSlice_full (P := Try.prog) w1.drew w1.drew.heap.size 24 34 i0 (.agg #[.int .i64 0, .int .i64 0]) 2 Try.underlying24 hi hz0 hz1 .i64 .i64 D (by omega) (by rw [hz2]; omega) (by unfold maxLen; omega) (Nat.le_refl _)
    have hb2 : Below w1.drew.heap.size w1.drew W2 := (Below.refl _ _).grown hgr (Nat.le_refl _) (fun _ h => by cases h)
    rw [made2] at hrow
    go_simp
    refine hK _ _ ?_
    refine wpI_only (i := 4) rfl (by kernel_rfl) (bstep l0 hb2) (by rfl) ?_
    intro K hK
    go_simp
    go_wp2_with (go_at_call 16; refine (i2.out W2 (bstep B1.out (bstep l0 hb2))).mono ?_; rintro e W3 ⟨g2, c2, rfl, hu2, hb3⟩)
    have RA : Hid (W3.ownsRow w.heap.size 34 2 _ D (ils (fun _ => 0) (D * 2))) := own_base (own_below hrow hb3) (by have := B1.out.size; simpa using this)
    have RA0 : W3.ownsRow w1.heap.size 34 2 _ D (ils (fun _ => 0) (D * 2)) := own_base (own_below hrow hb3) (by simp)
    have RU : Hid (W3.ownsRow w.heap.size 34 2 (.slice (some ⟨g2, 0, none⟩) n c2) n (ils (trn q z) (n * 2))) := own_base hu2 (by have := (bstep B1.out (bstep l0 hb2)).size; exact this)
    have B3 : Hid (Below w.heap.size w W3) := bstep (bstep B1.out (bstep l0 hb2)) hb3
    have L3 : Hid (Below w1.heap.size w1 W3) := bstep (bstep l0 hb2) hb3
    clear hm2 hrow hgr hb2 hb3 hu2
    have RA1 : Hid (W3.ownsRow w1.heap.size 34 2 _ D (ils (fun _ => 0) (D * 2))) := RA0
    refine wpI_only (i := 5) rfl (by kernel_rfl) L3.out (by rfl) ?_
    intro K hK
    refine wp_append_own W3 _ _ 24 rfl w.heap.size 34 i0 (.agg #[.int .i64 0, .int .i64 0]) 2 16 Try.underlying24 hi hz0 hz1 hz2 rfl (by decide) _ _ _ rfl RA.out ⟨g2, 0, none⟩ n c2 (ils (trn q z) (n * 2)) rfl (by rw [ils_length]) (fun j u0 hj => by
      by_cases h9 : j < n * 2
      · rw [ils_get h9] at hj
        have := own2_cell RU.out h9
        simp only [Option.some.injEq] at hj
        rw [← hj, ← this]; simp [Addr.add]; split <;> simp_all
      · rw [List.getElem?_eq_none (by rw [ils_length]; omega)] at hj; cases hj) (ils_one _ _) (by unfold maxLen; omega) (by omega) B3.out.size ?_
    intro v4 W4 hown4 hgrow4 hnn4
    have NN : v4 ≠ .slice none 0 0 := fun h9 => by have h8 := (hnn4.1 h9).1; cases h8
    rw [airb_ils] at hown4
    obtain ⟨g4, c4, rfl⟩ := own_some hown4 NN
    have B4 : Hid (Below w.heap.size w W4) := grown_below B3.out (Nat.le_refl _) RA.out hgrow4
    have L4 : Hid (Below w1.heap.size w1 W4) := grown_below L3.out (Nat.le_refl _) (RA1.out) hgrow4
    have R4 : Hid (W4.ownsRow w.heap.size 34 2 (.slice (some ⟨g4, 0, none⟩) (D + n) c4) (D + n) (ils (airb D q z) ((D + n) * 2))) := hown4
    clear hown4 hgrow4 hnn4 NN
    refine hK _ _ ?_
    clear hK K
    refine wpI_only (i := 6) rfl (by kernel_rfl) L4.out (by rfl) ?_
    intro K hK
    go_simp
    refine hK _ _ ?_
    clear hK K
    refine wpI_done L4.out (by kernel_rfl) ?_ _
    clear L4 L3 RA RA1 RU B3
    go_wp2
    go_loopw [11, 12, 28] (fun _ _ i wr => ∃ k : Nat, i = .int .i64 (k : Int) ∧ k ≤ m ∧ Hid (∃ f', wr.ownsRow w.heap.size 34 2 (.slice (some ⟨g4, 0, none⟩) (D + n) c4) (D + n) (ils f' ((D + n) * 2)) ∧ (∀ j, j < (D + n) * 2 → f' j = airb D q z j + (if j < k * 2 then y j else 0)) ∧ Below w.heap.size w wr)) (fun _ _ i _ => m - (intOf i).toNat)
    case atStart => exact ⟨0, rfl, by omega, _, R4.out, fun j _ => by simp, B4.out⟩
    case round =>
      obtain ⟨k, rfl, hk, hrel⟩ := hrel
      obtain ⟨f', hf, hmk, hbl⟩ := hrel.out
      clear hrel
      by_cases h1 : k < m
      · obtain ⟨b, off, rfl, hlt, hcell⟩ := HC.out (by omega)
        have c0 := (hbl.cell (p := ⟨b, off + k * 2, none⟩) hlt).trans (hcell k h1).1
        have c1 := (hbl.cell (p := ⟨b, off + k * 2 + 1, none⟩) hlt).trans (hcell k h1).2
        have sx := (HY.out k h1).1
        have sy := (HY.out k h1).2
        have tX : Smp (f' (k * 2)) := by rw [hmk _ (by omega), if_neg (by omega), Int.add_zero]; exact airb_in HP.out (by omega)
        have tY : Smp (f' (k * 2 + 1)) := by rw [hmk _ (by omega), if_neg (by omega), Int.add_zero]; exact airb_in HP.out (by omega)
        obtain ⟨x1, hx⟩ : ∃ x1, x1 = y (k * 2) := ⟨_, rfl⟩
        obtain ⟨y1, hy⟩ : ∃ y1, y1 = y (k * 2 + 1) := ⟨_, rfl⟩
        obtain ⟨Xv, hX⟩ : ∃ X, X = f' (k * 2) := ⟨_, rfl⟩
        obtain ⟨Yv, hY⟩ : ∃ Y, Y = f' (k * 2 + 1) := ⟨_, rfl⟩
        rw [← hx] at c0 sx
        rw [← hy] at c1 sy
        rw [← hX] at tX
        rw [← hY] at tY
        unfold Smp at sx sy tX tY
        have hb5 := below_one wr (.cells #[.int .i64 x1, .int .i64 y1] 34)
        have P5 : P2 (wr.alloc (.cells #[.int .i64 x1, .int .i64 y1] 34)) wr.heap.size x1 y1 := P2.new _ _ _ _
        have gne : wr.heap.size ≠ g4 := by have := own2_lt hf (by omega); omega
        have glo := own2_ge hf (by omega)
        have hf5 := own_below hf hb5
        have B5 := bstep hbl hb5
        have db : Below (wr.alloc (.cells #[.int .i64 x1, .int .i64 y1] 34)).heap.size (wr.alloc (.cells #[.int .i64 x1, .int .i64 y1] 34)) (wr.alloc (.cells #[.int .i64 x1, .int .i64 y1] 34)).drew := (Below.refl _ _).drew
        have hf6 : Hid _ := own_below hf5 db
        have B6 : Hid _ := bstep B5 db
        have P6 : Hid _ := P5.call db
        have HM : Hid (∀ j, j < (D + n) * 2 → f' j = airb D q z j + (if j < k * 2 then y j else 0)) := hmk
        have HXY : Hid (x1 = y (k * 2) ∧ y1 = y (k * 2 + 1) ∧ Xv = f' (k * 2) ∧ Yv = f' (k * 2 + 1)) := ⟨hx, hy, hX, hY⟩
        clear hf hmk hbl hcell hlt hx hy hX hY hb5 hf5 B5 db P5
        go_upto_region 7 with fail
        clear c0 c1
        generalize wr.alloc (.cells #[.int .i64 x1, .int .i64 y1] 34) = W5 at *
        refine wp_region_any (by kernel_rfl) ?_
        change wpAny _ _ _ _ _ _ _ (World.drew _)
        refine wpI_any (I := fun X => X.cell? ⟨wr.heap.size, 0, none⟩ = some (.int .i64 x1)) _ _ _ _ ?_
        generalize W5.drew = W6 at *
        have d0 := (own2_cell hf6.out (j := k * 2) (by omega)).trans (by rw [← HXY.out.2.2.1])
        have z0 := World.ownsRow.frozenAt hf6.out (k * 2)
        have c0 := P6.out.c0
        refine wpI_take (i := 0) (v := ?_) rfl (by kernel_rfl) (by kernel_rfl) (by kernel_rfl) (fun _ _ _ h => h) ⟨by rfl, ?_⟩ ?_
        rotate_left
        · intro X hI; go_simp; try go_bits
          try rw [if_pos (by omega)]
          try with_reducible rfl
        refine wpI_take (i := 1) (v := ?_) rfl (by kernel_rfl) (by kernel_rfl) (by kernel_rfl) (fun _ _ _ h => h) ⟨by rfl, ?_⟩ ?_
        rotate_left
        · intro X hI; go_simp; try go_bits
          try rw [if_pos (by omega)]
          try with_reducible rfl
        refine wpI_take (i := 2) (v := ?_) rfl (by kernel_rfl) (by kernel_rfl) (by kernel_rfl) (fun _ _ _ h => h) ⟨by rfl, ?_⟩ ?_
        rotate_left
        · intro X hI; go_simp; try go_bits
          try rw [if_pos (by omega)]
          try with_reducible rfl
        refine wpI_take (i := 3) (v := ?_) rfl (by kernel_rfl) (by kernel_rfl) (by kernel_rfl) (fun _ _ _ h => h) ⟨by rfl, ?_⟩ ?_
        rotate_left
        · intro X hI; go_simp; try go_bits
          try rw [if_pos (by omega)]
          try with_reducible rfl
        refine wpI_take (i := 5) (v := ?_) rfl (by kernel_rfl) (by kernel_rfl) (by kernel_rfl) (fun _ _ _ h => h) ⟨by rfl, ?_⟩ ?_
        rotate_left
        · intro X hI; go_simp; try go_bits
          try rw [if_pos (by omega)]
          try with_reducible rfl
        refine wpI_take (i := 6) (v := .int .i64 x1) rfl (by kernel_rfl) (by kernel_rfl) (by kernel_rfl) (fun _ _ _ h => h) ⟨by rfl, ?_⟩ ?_
        · intro X hI; have c9 := hI; go_simp; try go_bits
          try rw [if_pos (by omega)]
          try trivial
        refine wpI_only (i := 4) rfl (by kernel_rfl) c0 (by rfl) ?_
        intro K hK
        go_simp
        try go_bits
        refine hK _ _ ?_
        refine wpI_take (i := 7) (v := .int .i64 (Xv + x1)) rfl (by kernel_rfl) (by kernel_rfl) (by kernel_rfl) (fun _ _ _ h => h) ⟨by rfl, ?_⟩ ?_
        · intro X hI; go_simp; try go_bits
          try rw [if_pos (by omega)]
          try trivial
        refine wpI_take (i := 8) (v := ?_) rfl (by kernel_rfl) (by kernel_rfl) (by kernel_rfl) (fun _ _ _ h => h) ⟨by rfl, ?_⟩ ?_
        rotate_left
        · intro X hI; go_simp; try go_bits
          try rw [if_pos (by omega)]
          try with_reducible rfl
        refine wpI_take (i := 9) (v := ?_) rfl (by kernel_rfl) (by kernel_rfl) (by kernel_rfl) (fun _ _ _ h => h) ⟨by rfl, ?_⟩ ?_
        rotate_left
        · intro X hI; go_simp; try go_bits
          try rw [if_pos (by omega)]
          try with_reducible rfl
        refine wpI_only (i := 10) rfl (by kernel_rfl) c0 (by rfl) ?_
        intro K hK
        go_simp
        refine hK _ _ ?_
        refine wpI_done (by rw [World.cell?_of_block (Below.heap_setCell _ _ _ _ gne)]; exact c0) (by kernel_rfl) ?_ _
        have st1 := (World.ownsRow.stored hf6.out (k * 2) (.int .i64 (Xv + x1))).1
        rw [ils_put] at st1
        have B7 := B6.out.setCell (p := ⟨g4, k * 2, none⟩) glo (.int .i64 (Xv + x1))
        have P7 := P6.out.one gne (k * 2) (.int .i64 (Xv + x1))
        clear d0 z0 c0 hK K B6 P6 hf6
        generalize W6.setCell ⟨g4, k * 2, none⟩ (.int .i64 (Xv + x1)) = W7 at *
        have db : Below W7.heap.size W7 W7.drew := (Below.refl _ _).drew
        have hf8 : Hid _ := own_below st1 db
        have B8 : Hid _ := bstep B7 db
        have P8 : Hid _ := P7.call db
        clear st1 B7 P7 db
        go_upto_region 8 with fail
        refine wp_region_any (by kernel_rfl) ?_
        change wpAny _ _ _ _ _ _ _ (World.drew _)
        refine wpI_any (I := fun X => X.cell? ⟨wr.heap.size, 1, none⟩ = some (.int .i64 y1)) _ _ _ _ ?_
        generalize W7.drew = W8 at *
        have d1 := (own2_cell hf8.out (j := k * 2 + 1) (by omega)).trans (by rw [if_neg (by omega), ← HXY.out.2.2.2])
        have z1 := World.ownsRow.frozenAt hf8.out (k * 2 + 1)
        have c1 := P8.out.c1
        refine wpI_take (i := 0) (v := ?_) rfl (by kernel_rfl) (by kernel_rfl) (by kernel_rfl) (fun _ _ _ h => h) ⟨by rfl, ?_⟩ ?_
        rotate_left
        · intro X hI; go_simp; try go_bits
          try rw [if_pos (by omega)]
          try with_reducible rfl
        refine wpI_take (i := 1) (v := ?_) rfl (by kernel_rfl) (by kernel_rfl) (by kernel_rfl) (fun _ _ _ h => h) ⟨by rfl, ?_⟩ ?_
        rotate_left
        · intro X hI; go_simp; try go_bits
          try rw [if_pos (by omega)]
          try with_reducible rfl
        refine wpI_take (i := 2) (v := ?_) rfl (by kernel_rfl) (by kernel_rfl) (by kernel_rfl) (fun _ _ _ h => h) ⟨by rfl, ?_⟩ ?_
        rotate_left
        · intro X hI; go_simp; try go_bits
          try rw [if_pos (by omega)]
          try with_reducible rfl
        refine wpI_take (i := 3) (v := ?_) rfl (by kernel_rfl) (by kernel_rfl) (by kernel_rfl) (fun _ _ _ h => h) ⟨by rfl, ?_⟩ ?_
        rotate_left
        · intro X hI; go_simp; try go_bits
          try rw [if_pos (by omega)]
          try with_reducible rfl
        refine wpI_take (i := 5) (v := ?_) rfl (by kernel_rfl) (by kernel_rfl) (by kernel_rfl) (fun _ _ _ h => h) ⟨by rfl, ?_⟩ ?_
        rotate_left
        · intro X hI; go_simp; try go_bits
          try rw [if_pos (by omega)]
          try with_reducible rfl
        refine wpI_take (i := 6) (v := .int .i64 y1) rfl (by kernel_rfl) (by kernel_rfl) (by kernel_rfl) (fun _ _ _ h => h) ⟨by rfl, ?_⟩ ?_
        · intro X hI; have c9 := hI; go_simp; try go_bits
          try rw [if_pos (by omega)]
          try trivial
        refine wpI_only (i := 4) rfl (by kernel_rfl) c1 (by rfl) ?_
        intro K hK
        go_simp
        try go_bits
        refine hK _ _ ?_
        refine wpI_take (i := 7) (v := .int .i64 (Yv + y1)) rfl (by kernel_rfl) (by kernel_rfl) (by kernel_rfl) (fun _ _ _ h => h) ⟨by rfl, ?_⟩ ?_
        · intro X hI; go_simp; try go_bits
          try rw [if_pos (by omega)]
          try trivial
        refine wpI_take (i := 8) (v := ?_) rfl (by kernel_rfl) (by kernel_rfl) (by kernel_rfl) (fun _ _ _ h => h) ⟨by rfl, ?_⟩ ?_
        rotate_left
        · intro X hI; go_simp; try go_bits
          try rw [if_pos (by omega)]
          try with_reducible rfl
        refine wpI_take (i := 9) (v := ?_) rfl (by kernel_rfl) (by kernel_rfl) (by kernel_rfl) (fun _ _ _ h => h) ⟨by rfl, ?_⟩ ?_
        rotate_left
        · intro X hI; go_simp; try go_bits
          try rw [if_pos (by omega)]
          try with_reducible rfl
        refine wpI_only (i := 10) rfl (by kernel_rfl) c1 (by rfl) ?_
        intro K hK
        go_simp
        refine hK _ _ ?_
        refine wpI_done (by rw [World.cell?_of_block (Below.heap_setCell _ _ _ _ gne)]; exact c1) (by kernel_rfl) ?_ _
        have st2 := (World.ownsRow.stored hf8.out (k * 2 + 1) (.int .i64 (Yv + y1))).1
        rw [ils_put] at st2
        have OP : Hid _ := st2
        have BP : Hid _ := B8.out.setCell (p := ⟨g4, k * 2 + 1, none⟩) glo (.int .i64 (Yv + y1))
        clear d1 z1 c1 hK K B8 P8 hf8 st2
        generalize W8.setCell ⟨g4, k * 2 + 1, none⟩ (.int .i64 (Yv + y1)) = W9 at *
        go_wp2
        go_roundw
        case rel =>
          refine ⟨k + 1, by go_num, by omega, _, OP.out, fun j hj => ?_, BP.out⟩
          by_cases h8 : j = k * 2 + 1
          · subst h8
            rw [if_pos rfl, if_pos (by omega), HXY.out.2.2.2, HM.out _ hj, if_neg (by omega), HXY.out.2.1]
            omega
          · by_cases h9 : j = k * 2
            · subst h9
              rw [if_neg h8, if_pos rfl, if_pos (by omega), HXY.out.2.2.1, HM.out _ hj, if_neg (by omega), HXY.out.1]
              omega
            · rw [if_neg h8, if_neg h9, HM.out _ hj]
              by_cases h7 : j < k * 2
              · rw [if_pos h7, if_pos (by omega)]
              · rw [if_neg h7, if_neg (by omega)]
        case measure => simp [intOf]; omega
      · obtain rfl : m = k := by omega
        rw [ils_congr (g := airz D q z m y) hmk] at hf
        have i3 := burst_any (il2_of_own hf) (by omega)
        have HF : Hid _ := hf
        have BL : Hid (Below w.heap.size w wr) := hbl
        clear hf hmk hbl
        by_cases hz : D + n ≤ 4096 ∧ Pok (D + n) (airz D q z m y)
        · rw [decide_eq_true hz] at i3
          have HZ : Hid _ := hz
          clear hz
          go_wp2_with (go_at_call 17; (with_reducible refine i3.mono ?_); rintro e w9 ⟨rfl, hb9⟩)
          go_ret2
          unfold Air
          rw [if_pos HZ.out]
          exact ⟨_, rfl, own_below HF.out hb9, bstep BL.out hb9⟩
        · rw [decide_eq_false hz] at i3
          have HZ : Hid _ := hz
          clear hz
          go_wp2_with (go_at_call 17; (with_reducible refine i3.mono ?_); rintro e w9 ⟨rfl, hb9⟩)
          go_ret2
          unfold Air
          rw [if_neg HZ.out]
          exact ⟨_, rfl, own_base (own_empty w9 34 2) (bstep BL.out hb9).size, bstep (bstep BL.out hb9) (below_one _ _)⟩
  · intro K hK
    go_simp
    go_wp2_with (go_at_call 16; refine (i2.out _ (bstep B1.out l0)).mono ?_; rintro e W2 ⟨g2, c2, rfl, hu2, hb2⟩)
    obtain ⟨W3, hm2, hrow, hgr⟩ := run_makeSlice_full (P := Try.prog) W2 W2.heap.size 24 34 i0 (.agg #[.int .i64 0, .int .i64 0]) 2 Try.underlying24 hi hz0 hz1 .i64 .i64 D (by omega) (by rw [hz2]; omega) (by unfold maxLen; omega) (Nat.le_refl _)
    have hb3 : Below W2.heap.size W2 W3 := (Below.refl _ _).grown hgr (Nat.le_refl _) (fun _ h => by cases h)
    rw [made2] at hrow
    refine wpI_only (i := 1) rfl (by kernel_rfl) (bstep l0 hb2) (by rfl) ?_
    intro K hK
    go_simp
    refine hK _ _ ?_
    have RA : Hid (W3.ownsRow w.heap.size 34 2 _ D (ils (fun _ => 0) (D * 2))) := own_base hrow (bstep B1.out (bstep l0 hb2)).size
    have RA0 : W3.ownsRow w1.heap.size 34 2 _ D (ils (fun _ => 0) (D * 2)) := own_base hrow (bstep l0 hb2).size
    have RU : Hid (W3.ownsRow w.heap.size 34 2 (.slice (some ⟨g2, 0, none⟩) n c2) n (ils (trn q z) (n * 2))) := own_base (own_below hu2 hb3) (bstep B1.out l0).size
    have B3 : Hid (Below w.heap.size w W3) := bstep (bstep B1.out (bstep l0 hb2)) hb3
    have L3 : Hid (Below w1.heap.size w1 W3) := bstep (bstep l0 hb2) hb3
    clear hm2 hrow hgr hb2 hb3 hu2
    have RA1 : Hid (W3.ownsRow w1.heap.size 34 2 _ D (ils (fun _ => 0) (D * 2))) := RA0
    refine wpI_only (i := 5) rfl (by kernel_rfl) L3.out (by rfl) ?_
    intro K hK
    refine wp_append_own W3 _ _ 24 rfl w.heap.size 34 i0 (.agg #[.int .i64 0, .int .i64 0]) 2 16 Try.underlying24 hi hz0 hz1 hz2 rfl (by decide) _ _ _ rfl RA.out ⟨g2, 0, none⟩ n c2 (ils (trn q z) (n * 2)) rfl (by rw [ils_length]) (fun j u0 hj => by
      by_cases h9 : j < n * 2
      · rw [ils_get h9] at hj
        have := own2_cell RU.out h9
        simp only [Option.some.injEq] at hj
        rw [← hj, ← this]; simp [Addr.add]; split <;> simp_all
      · rw [List.getElem?_eq_none (by rw [ils_length]; omega)] at hj; cases hj) (ils_one _ _) (by unfold maxLen; omega) (by omega) B3.out.size ?_
    intro v4 W4 hown4 hgrow4 hnn4
    have NN : v4 ≠ .slice none 0 0 := fun h9 => by have h8 := (hnn4.1 h9).1; cases h8
    rw [airb_ils] at hown4
    obtain ⟨g4, c4, rfl⟩ := own_some hown4 NN
    have B4 : Hid (Below w.heap.size w W4) := grown_below B3.out (Nat.le_refl _) RA.out hgrow4
    have L4 : Hid (Below w1.heap.size w1 W4) := grown_below L3.out (Nat.le_refl _) (RA1.out) hgrow4
    have R4 : Hid (W4.ownsRow w.heap.size 34 2 (.slice (some ⟨g4, 0, none⟩) (D + n) c4) (D + n) (ils (airb D q z) ((D + n) * 2))) := hown4
    clear hown4 hgrow4 hnn4 NN
    refine hK _ _ ?_
    clear hK K
    refine wpI_only (i := 6) rfl (by kernel_rfl) L4.out (by rfl) ?_
    intro K hK
    go_simp
    refine hK _ _ ?_
    clear hK K
    refine wpI_done L4.out (by kernel_rfl) ?_ _
    clear L4 L3 RA RA1 RU B3
    go_wp2
    go_loopw [11, 12, 28] (fun _ _ i wr => ∃ k : Nat, i = .int .i64 (k : Int) ∧ k ≤ m ∧ Hid (∃ f', wr.ownsRow w.heap.size 34 2 (.slice (some ⟨g4, 0, none⟩) (D + n) c4) (D + n) (ils f' ((D + n) * 2)) ∧ (∀ j, j < (D + n) * 2 → f' j = airb D q z j + (if j < k * 2 then y j else 0)) ∧ Below w.heap.size w wr)) (fun _ _ i _ => m - (intOf i).toNat)
    case atStart => exact ⟨0, rfl, by omega, _, R4.out, fun j _ => by simp, B4.out⟩
    case round =>
      obtain ⟨k, rfl, hk, hrel⟩ := hrel
      obtain ⟨f', hf, hmk, hbl⟩ := hrel.out
      clear hrel
      by_cases h1 : k < m
      · obtain ⟨b, off, rfl, hlt, hcell⟩ := HC.out (by omega)
        have c0 := (hbl.cell (p := ⟨b, off + k * 2, none⟩) hlt).trans (hcell k h1).1
        have c1 := (hbl.cell (p := ⟨b, off + k * 2 + 1, none⟩) hlt).trans (hcell k h1).2
        have sx := (HY.out k h1).1
        have sy := (HY.out k h1).2
        have tX : Smp (f' (k * 2)) := by rw [hmk _ (by omega), if_neg (by omega), Int.add_zero]; exact airb_in HP.out (by omega)
        have tY : Smp (f' (k * 2 + 1)) := by rw [hmk _ (by omega), if_neg (by omega), Int.add_zero]; exact airb_in HP.out (by omega)
        obtain ⟨x1, hx⟩ : ∃ x1, x1 = y (k * 2) := ⟨_, rfl⟩
        obtain ⟨y1, hy⟩ : ∃ y1, y1 = y (k * 2 + 1) := ⟨_, rfl⟩
        obtain ⟨Xv, hX⟩ : ∃ X, X = f' (k * 2) := ⟨_, rfl⟩
        obtain ⟨Yv, hY⟩ : ∃ Y, Y = f' (k * 2 + 1) := ⟨_, rfl⟩
        rw [← hx] at c0 sx
        rw [← hy] at c1 sy
        rw [← hX] at tX
        rw [← hY] at tY
        unfold Smp at sx sy tX tY
        have hb5 := below_one wr (.cells #[.int .i64 x1, .int .i64 y1] 34)
        have P5 : P2 (wr.alloc (.cells #[.int .i64 x1, .int .i64 y1] 34)) wr.heap.size x1 y1 := P2.new _ _ _ _
        have gne : wr.heap.size ≠ g4 := by have := own2_lt hf (by omega); omega
        have glo := own2_ge hf (by omega)
        have hf5 := own_below hf hb5
        have B5 := bstep hbl hb5
        have db : Below (wr.alloc (.cells #[.int .i64 x1, .int .i64 y1] 34)).heap.size (wr.alloc (.cells #[.int .i64 x1, .int .i64 y1] 34)) (wr.alloc (.cells #[.int .i64 x1, .int .i64 y1] 34)).drew := (Below.refl _ _).drew
        have hf6 : Hid _ := own_below hf5 db
        have B6 : Hid _ := bstep B5 db
        have P6 : Hid _ := P5.call db
        have HM : Hid (∀ j, j < (D + n) * 2 → f' j = airb D q z j + (if j < k * 2 then y j else 0)) := hmk
        have HXY : Hid (x1 = y (k * 2) ∧ y1 = y (k * 2 + 1) ∧ Xv = f' (k * 2) ∧ Yv = f' (k * 2 + 1)) := ⟨hx, hy, hX, hY⟩
        clear hf hmk hbl hcell hlt hx hy hX hY hb5 hf5 B5 db P5
        go_upto_region 7 with fail
        clear c0 c1
        generalize wr.alloc (.cells #[.int .i64 x1, .int .i64 y1] 34) = W5 at *
        refine wp_region_any (by kernel_rfl) ?_
        change wpAny _ _ _ _ _ _ _ (World.drew _)
        refine wpI_any (I := fun X => X.cell? ⟨wr.heap.size, 0, none⟩ = some (.int .i64 x1)) _ _ _ _ ?_
        generalize W5.drew = W6 at *
        have d0 := (own2_cell hf6.out (j := k * 2) (by omega)).trans (by rw [← HXY.out.2.2.1])
        have z0 := World.ownsRow.frozenAt hf6.out (k * 2)
        have c0 := P6.out.c0
        refine wpI_take (i := 0) (v := ?_) rfl (by kernel_rfl) (by kernel_rfl) (by kernel_rfl) (fun _ _ _ h => h) ⟨by rfl, ?_⟩ ?_
        rotate_left
        · intro X hI; go_simp; try go_bits
          try rw [if_pos (by omega)]
          try with_reducible rfl
        refine wpI_take (i := 1) (v := ?_) rfl (by kernel_rfl) (by kernel_rfl) (by kernel_rfl) (fun _ _ _ h => h) ⟨by rfl, ?_⟩ ?_
        rotate_left
        · intro X hI; go_simp; try go_bits
          try rw [if_pos (by omega)]
          try with_reducible rfl
        refine wpI_take (i := 2) (v := ?_) rfl (by kernel_rfl) (by kernel_rfl) (by kernel_rfl) (fun _ _ _ h => h) ⟨by rfl, ?_⟩ ?_
        rotate_left
        · intro X hI; go_simp; try go_bits
          try rw [if_pos (by omega)]
          try with_reducible rfl
        refine wpI_take (i := 3) (v := ?_) rfl (by kernel_rfl) (by kernel_rfl) (by kernel_rfl) (fun _ _ _ h => h) ⟨by rfl, ?_⟩ ?_
        rotate_left
        · intro X hI; go_simp; try go_bits
          try rw [if_pos (by omega)]
          try with_reducible rfl
        refine wpI_take (i := 5) (v := ?_) rfl (by kernel_rfl) (by kernel_rfl) (by kernel_rfl) (fun _ _ _ h => h) ⟨by rfl, ?_⟩ ?_
        rotate_left
        · intro X hI; go_simp; try go_bits
          try rw [if_pos (by omega)]
          try with_reducible rfl
        refine wpI_take (i := 6) (v := .int .i64 x1) rfl (by kernel_rfl) (by kernel_rfl) (by kernel_rfl) (fun _ _ _ h => h) ⟨by rfl, ?_⟩ ?_
        · intro X hI; have c9 := hI; go_simp; try go_bits
          try rw [if_pos (by omega)]
          try trivial
        refine wpI_only (i := 4) rfl (by kernel_rfl) c0 (by rfl) ?_
        intro K hK
        go_simp
        try go_bits
        refine hK _ _ ?_
        refine wpI_take (i := 7) (v := .int .i64 (Xv + x1)) rfl (by kernel_rfl) (by kernel_rfl) (by kernel_rfl) (fun _ _ _ h => h) ⟨by rfl, ?_⟩ ?_
        · intro X hI; go_simp; try go_bits
          try rw [if_pos (by omega)]
          try trivial
        refine wpI_take (i := 8) (v := ?_) rfl (by kernel_rfl) (by kernel_rfl) (by kernel_rfl) (fun _ _ _ h => h) ⟨by rfl, ?_⟩ ?_
        rotate_left
        · intro X hI; go_simp; try go_bits
          try rw [if_pos (by omega)]
          try with_reducible rfl
        refine wpI_take (i := 9) (v := ?_) rfl (by kernel_rfl) (by kernel_rfl) (by kernel_rfl) (fun _ _ _ h => h) ⟨by rfl, ?_⟩ ?_
        rotate_left
        · intro X hI; go_simp; try go_bits
          try rw [if_pos (by omega)]
          try with_reducible rfl
        refine wpI_only (i := 10) rfl (by kernel_rfl) c0 (by rfl) ?_
        intro K hK
        go_simp
        refine hK _ _ ?_
        refine wpI_done (by rw [World.cell?_of_block (Below.heap_setCell _ _ _ _ gne)]; exact c0) (by kernel_rfl) ?_ _
        have st1 := (World.ownsRow.stored hf6.out (k * 2) (.int .i64 (Xv + x1))).1
        rw [ils_put] at st1
        have B7 := B6.out.setCell (p := ⟨g4, k * 2, none⟩) glo (.int .i64 (Xv + x1))
        have P7 := P6.out.one gne (k * 2) (.int .i64 (Xv + x1))
        clear d0 z0 c0 hK K B6 P6 hf6
        generalize W6.setCell ⟨g4, k * 2, none⟩ (.int .i64 (Xv + x1)) = W7 at *
        have db : Below W7.heap.size W7 W7.drew := (Below.refl _ _).drew
        have hf8 : Hid _ := own_below st1 db
        have B8 : Hid _ := bstep B7 db
        have P8 : Hid _ := P7.call db
        clear st1 B7 P7 db
        go_upto_region 8 with fail
        refine wp_region_any (by kernel_rfl) ?_
        change wpAny _ _ _ _ _ _ _ (World.drew _)
        refine wpI_any (I := fun X => X.cell? ⟨wr.heap.size, 1, none⟩ = some (.int .i64 y1)) _ _ _ _ ?_
        generalize W7.drew = W8 at *
        have d1 := (own2_cell hf8.out (j := k * 2 + 1) (by omega)).trans (by rw [if_neg (by omega), ← HXY.out.2.2.2])
        have z1 := World.ownsRow.frozenAt hf8.out (k * 2 + 1)
        have c1 := P8.out.c1
        refine wpI_take (i := 0) (v := ?_) rfl (by kernel_rfl) (by kernel_rfl) (by kernel_rfl) (fun _ _ _ h => h) ⟨by rfl, ?_⟩ ?_
        rotate_left
        · intro X hI; go_simp; try go_bits
          try rw [if_pos (by omega)]
          try with_reducible rfl
        refine wpI_take (i := 1) (v := ?_) rfl (by kernel_rfl) (by kernel_rfl) (by kernel_rfl) (fun _ _ _ h => h) ⟨by rfl, ?_⟩ ?_
        rotate_left
        · intro X hI; go_simp; try go_bits
          try rw [if_pos (by omega)]
          try with_reducible rfl
        refine wpI_take (i := 2) (v := ?_) rfl (by kernel_rfl) (by kernel_rfl) (by kernel_rfl) (fun _ _ _ h => h) ⟨by rfl, ?_⟩ ?_
        rotate_left
        · intro X hI; go_simp; try go_bits
          try rw [if_pos (by omega)]
          try with_reducible rfl
        refine wpI_take (i := 3) (v := ?_) rfl (by kernel_rfl) (by kernel_rfl) (by kernel_rfl) (fun _ _ _ h => h) ⟨by rfl, ?_⟩ ?_
        rotate_left
        · intro X hI; go_simp; try go_bits
          try rw [if_pos (by omega)]
          try with_reducible rfl
        refine wpI_take (i := 5) (v := ?_) rfl (by kernel_rfl) (by kernel_rfl) (by kernel_rfl) (fun _ _ _ h => h) ⟨by rfl, ?_⟩ ?_
        rotate_left
        · intro X hI; go_simp; try go_bits
          try rw [if_pos (by omega)]
          try with_reducible rfl
        refine wpI_take (i := 6) (v := .int .i64 y1) rfl (by kernel_rfl) (by kernel_rfl) (by kernel_rfl) (fun _ _ _ h => h) ⟨by rfl, ?_⟩ ?_
        · intro X hI; have c9 := hI; go_simp; try go_bits
          try rw [if_pos (by omega)]
          try trivial
        refine wpI_only (i := 4) rfl (by kernel_rfl) c1 (by rfl) ?_
        intro K hK
        go_simp
        try go_bits
        refine hK _ _ ?_
        refine wpI_take (i := 7) (v := .int .i64 (Yv + y1)) rfl (by kernel_rfl) (by kernel_rfl) (by kernel_rfl) (fun _ _ _ h => h) ⟨by rfl, ?_⟩ ?_
        · intro X hI; go_simp; try go_bits
          try rw [if_pos (by omega)]
          try trivial
        refine wpI_take (i := 8) (v := ?_) rfl (by kernel_rfl) (by kernel_rfl) (by kernel_rfl) (fun _ _ _ h => h) ⟨by rfl, ?_⟩ ?_
        rotate_left
        · intro X hI; go_simp; try go_bits
          try rw [if_pos (by omega)]
          try with_reducible rfl
        refine wpI_take (i := 9) (v := ?_) rfl (by kernel_rfl) (by kernel_rfl) (by kernel_rfl) (fun _ _ _ h => h) ⟨by rfl, ?_⟩ ?_
        rotate_left
        · intro X hI; go_simp; try go_bits
          try rw [if_pos (by omega)]
          try with_reducible rfl
        refine wpI_only (i := 10) rfl (by kernel_rfl) c1 (by rfl) ?_
        intro K hK
        go_simp
        refine hK _ _ ?_
        refine wpI_done (by rw [World.cell?_of_block (Below.heap_setCell _ _ _ _ gne)]; exact c1) (by kernel_rfl) ?_ _
        have st2 := (World.ownsRow.stored hf8.out (k * 2 + 1) (.int .i64 (Yv + y1))).1
        rw [ils_put] at st2
        have OP : Hid _ := st2
        have BP : Hid _ := B8.out.setCell (p := ⟨g4, k * 2 + 1, none⟩) glo (.int .i64 (Yv + y1))
        clear d1 z1 c1 hK K B8 P8 hf8 st2
        generalize W8.setCell ⟨g4, k * 2 + 1, none⟩ (.int .i64 (Yv + y1)) = W9 at *
        go_wp2
        go_roundw
        case rel =>
          refine ⟨k + 1, by go_num, by omega, _, OP.out, fun j hj => ?_, BP.out⟩
          by_cases h8 : j = k * 2 + 1
          · subst h8
            rw [if_pos rfl, if_pos (by omega), HXY.out.2.2.2, HM.out _ hj, if_neg (by omega), HXY.out.2.1]
            omega
          · by_cases h9 : j = k * 2
            · subst h9
              rw [if_neg h8, if_pos rfl, if_pos (by omega), HXY.out.2.2.1, HM.out _ hj, if_neg (by omega), HXY.out.1]
              omega
            · rw [if_neg h8, if_neg h9, HM.out _ hj]
              by_cases h7 : j < k * 2
              · rw [if_pos h7, if_pos (by omega)]
              · rw [if_neg h7, if_neg (by omega)]
        case measure => simp [intOf]; omega
      · obtain rfl : m = k := by omega
        rw [ils_congr (g := airz D q z m y) hmk] at hf
        have i3 := burst_any (il2_of_own hf) (by omega)
        have HF : Hid _ := hf
        have BL : Hid (Below w.heap.size w wr) := hbl
        clear hf hmk hbl
        by_cases hz : D + n ≤ 4096 ∧ Pok (D + n) (airz D q z m y)
        · rw [decide_eq_true hz] at i3
          have HZ : Hid _ := hz
          clear hz
          go_wp2_with (go_at_call 17; (with_reducible refine i3.mono ?_); rintro e w9 ⟨rfl, hb9⟩)
          go_ret2
          unfold Air
          rw [if_pos HZ.out]
          exact ⟨_, rfl, own_below HF.out hb9, bstep BL.out hb9⟩
        · rw [decide_eq_false hz] at i3
          have HZ : Hid _ := hz
          clear hz
          go_wp2_with (go_at_call 17; (with_reducible refine i3.mono ?_); rintro e w9 ⟨rfl, hb9⟩)
          go_ret2
          unfold Air
          rw [if_neg HZ.out]
          exact ⟨_, rfl, own_base (own_empty w9 34 2) (bstep BL.out hb9).size, bstep (bstep BL.out hb9) (below_one _ _)⟩

theorem iAir_bad {w : World} {v u : Value} {n m : Nat} {z y : Nat → Int} {dl q : Int} (hv : Il2 w v n z) (hu : Il2 w u m y) (hn : n ≤ 1048576) (hm : m ≤ 1048576) (hg : ¬ Gin n z m y dl q) (ys : Nat → Int) :
    Calls Try.prog 7 #[v, .int .i64 dl, .int .i64 q, u] w fun e w' => Ppk w w' e 0 ys false := by
  have i1 := isAir_any (dl := dl) (q := q) hv hu hn hm
  rw [decide_eq_false hg] at i1
  obtain ⟨ao, cap, rfl, hcap, hc⟩ := hv
  obtain ⟨bo, bap, rfl, hbap, hbc⟩ := hu
  clear hc hbc hg
  go_enter Try.func7, Try.ntmps7
  go_wp2_with (go_at_call 15; (with_reducible refine i1.mono ?_); rintro e w9 ⟨rfl, hb9⟩)
  go_ret2
  exact ⟨_, rfl, own_base (own_empty w9 34 2) hb9.size, bstep hb9 (below_one _ _)⟩
end Go.Proofs.Ytlcfcdpgggocnaa
