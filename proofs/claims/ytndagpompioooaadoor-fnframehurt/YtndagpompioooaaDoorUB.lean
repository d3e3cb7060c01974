/- A reader of bits. -/
import Derived.Test.YtndagpompioooaaDoorUA
import Derived.Test.YtndagpompioooaaDoorEB
import Derived.Test.YtndagpompioooaaDoorI1
import Derived.RegionTactic
import Derived.BigQuiet
namespace Go.Proofs.YtndagpompioooaaDoor
open Go.RowKit

/-- A reader of bits in the block G: its bits' variable lies in the block Bx. -/
structure Rdr (W : World) (G Bx : Nat) (v : Value) (n a : Nat) (b : Nat → Int) : Prop where
  c0 : W.cell? ⟨G, 0, none⟩ = some (.func (.func 74) #[] #[.pointer (some ⟨Bx, 0, none⟩)])
  c1 : W.cell? ⟨G, 1, none⟩ = some (.int .i64 (n : Int))
  c2 : W.cell? ⟨G, 2, none⟩ = some (.int .i64 (a : Int))
  z2 : W.frozen? ⟨G, 2, none⟩ = false
  bx : W.cell? ⟨Bx, 0, none⟩ = some v
  bl : Bx < G
  il : ∃ ao cap, v = .slice ao n cap ∧ n ≤ cap ∧ (0 < n → ∃ bb off, ao = some ⟨bb, off, none⟩ ∧ bb < G ∧ ∀ k, k < n → W.cell? ⟨bb, off + k, none⟩ = some (.int .i64 (b k)))

theorem Rdr.lt {W : World} {G Bx n a : Nat} {v : Value} {b : Nat → Int} (h : Rdr W G Bx v n a b) : G < W.heap.size := World.block_lt_of_cell? W _ h.c1
theorem Rdr.below {W W' : World} {G Bx n a : Nat} {v : Value} {b : Nat → Int} (h : Rdr W G Bx v n a b) (hb : Below W.heap.size W W') : Rdr W' G Bx v n a b := by
  obtain ⟨ao, cap, rfl, hcap, hc⟩ := h.il
  refine ⟨(hb.cell h.lt).trans h.c0, (hb.cell h.lt).trans h.c1, (hb.cell h.lt).trans h.c2, (hb.frozen h.lt).trans h.z2, (hb.cell (Nat.lt_trans h.bl h.lt)).trans h.bx, h.bl, _, _, rfl, hcap, fun h0 => ?_⟩
  obtain ⟨bb, off, e1, e2, e3⟩ := hc h0
  exact ⟨bb, off, e1, e2, fun k hk => (hb.cell (p := ⟨bb, off + k, none⟩) (Nat.lt_trans e2 h.lt)).trans (e3 k hk)⟩
theorem Rdr.put {W : World} {G Bx n a : Nat} {v : Value} {b : Nat → Int} (h : Rdr W G Bx v n a b) (a' : Nat) : Rdr (W.setCell ⟨G, 2, none⟩ (.int .i64 (a' : Int))) G Bx v n a' b := by
  obtain ⟨ao, cap, rfl, hcap, hc⟩ := h.il
  have ho : Only G W (W.setCell ⟨G, 2, none⟩ (.int .i64 (a' : Int))) := (Only.refl G W).put 2 _
  have hk : ∀ (k off : Nat), k ≠ G → (W.setCell ⟨G, 2, none⟩ (.int .i64 (a' : Int))).cell? ⟨k, off, none⟩ = W.cell? ⟨k, off, none⟩ := fun k off hk => World.cell?_of_block (w := W) (ho.block k hk)
  refine ⟨by simp [go_sem, h.c0], by simp [go_sem, h.c1], World.cell?_setCell_same' _ _ _ (by rw [h.c2]; rfl), by simp [go_sem, h.z2], (hk Bx 0 (Nat.ne_of_lt h.bl)).trans h.bx, h.bl, _, _, rfl, hcap, fun h0 => ?_⟩
  obtain ⟨bb, off, e1, e2, e3⟩ := hc h0
  exact ⟨bb, off, e1, e2, fun k hk' => (hk bb (off + k) (Nat.ne_of_lt e2)).trans (e3 k hk')⟩

theorem Only.drewN {g : Nat} {w w' : World} (h : Only g w w') (n : Nat) : Only g w (w'.drewN n) := ⟨h.os, h.tape, h.output, h.size, h.block⟩
theorem Only.trans {g : Nat} {w w' w3 : World} (h : Only g w w') (h2 : Only g w' w3) : Only g w w3 := ⟨h2.os.trans h.os, h2.tape.trans h.tape, h2.output.trans h.output, Nat.le_trans h.size h2.size, fun k hk => (h2.block k hk).trans (h.block k hk)⟩

theorem bit_any {w : World} {G Bx n a i : Nat} {v : Value} {b : Nat → Int} (h : Rdr w G Bx v n a b) (hi : i < n) (hn : n ≤ 1048576) : Calls Tryd.prog 74 #[.int .i64 (i : Int), .pointer (some ⟨Bx, 0, none⟩)] w fun e w' => e = .returned (.int .i64 (b i)) ∧ w' = w := by
  obtain ⟨ao, cap, rfl, hcap, hc⟩ := h.il
  obtain ⟨bb, off, rfl, hlt, hcell⟩ := hc (by omega)
  have c1 := hcell i hi
  have c0 := h.bx
  clear hcell hc h
  go_enter Tryd.func74, Tryd.ntmps74
  go_wp2
  go_ret
  exact ⟨rfl, rfl⟩

set_option maxHeartbeats 4000000 in
theorem next_none {w : World} {G Bx n a : Nat} {v : Value} {b : Nat → Int} (h : Rdr w G Bx v n a b) (ha : n ≤ a) (_ : n ≤ 1048576) (_ : a ≤ 1048576) : Calls Tryd.prog 90 #[.pointer (some ⟨G, 0, none⟩)] w fun e w' => e = pan 3 ∧ Only G w w' := by
  obtain ⟨c0, c1, c2, z2, bx, bl, il⟩ := h
  clear il bx c0 z2 bl
  go_enter Tryd.func90, Tryd.ntmps90
  go_upto_region 1 with fail
  refine wp_region_any (by kernel_rfl) ?_
  change wpAny _ _ _ _ _ _ _ (World.drew _)
  refine wpI_any (I := fun X => X.cell? ⟨G, 2, none⟩ = some (.int .i64 (a : Int)) ∧ X.cell? ⟨G, 1, none⟩ = some (.int .i64 (n : Int))) _ _ _ _ ?_
  refine wpI_take (i := 0) (v := ?_) rfl (by kernel_rfl) (by kernel_rfl) (by kernel_rfl) (fun _ _ _ h => h) ⟨by rfl, ?_⟩ ?_
  rotate_left
  · intro X hI; go_simp; try go_bits
    try rw [if_pos (by omega)]
    try with_reducible rfl
  refine wpI_take (i := 1) (v := ?_) rfl (by kernel_rfl) (by kernel_rfl) (by kernel_rfl) (fun _ _ _ h => h) ⟨by rfl, ?_⟩ ?_
  rotate_left
  · intro X hI; go_simp; try go_bits
    try rw [if_pos (by omega)]
    try with_reducible rfl
  refine wpI_take (i := 2) (v := ?_) rfl (by kernel_rfl) (by kernel_rfl) (by kernel_rfl) (fun _ _ _ h => h) ⟨by rfl, ?_⟩ ?_
  rotate_left
  · intro X hI; go_simp; try go_bits
    try rw [if_pos (by omega)]
    try with_reducible rfl
  refine wpI_take (i := 3) (v := ?_) rfl (by kernel_rfl) (by kernel_rfl) (by kernel_rfl) (fun _ _ _ h => h) ⟨by rfl, ?_⟩ ?_
  rotate_left
  · intro X hI; obtain ⟨q1, q2⟩ := hI; go_simp; try go_bits
    try rw [if_pos (by omega)]
    try with_reducible rfl
  refine wpI_take (i := 4) (v := ?_) rfl (by kernel_rfl) (by kernel_rfl) (by kernel_rfl) (fun _ _ _ h => h) ⟨by rfl, ?_⟩ ?_
  rotate_left
  · intro X hI; go_simp; try go_bits
    try rw [if_pos (by omega)]
    try with_reducible rfl
  refine wpI_take (i := 5) (v := ?_) rfl (by kernel_rfl) (by kernel_rfl) (by kernel_rfl) (fun _ _ _ h => h) ⟨by rfl, ?_⟩ ?_
  rotate_left
  · intro X hI; go_simp; try go_bits
    try rw [if_pos (by omega)]
    try with_reducible rfl
  refine wpI_take (i := 6) (v := ?_) rfl (by kernel_rfl) (by kernel_rfl) (by kernel_rfl) (fun _ _ _ h => h) ⟨by rfl, ?_⟩ ?_
  rotate_left
  · intro X hI; go_simp; try go_bits
    try rw [if_pos (by omega)]
    try with_reducible rfl
  refine wpI_take (i := 7) (v := ?_) rfl (by kernel_rfl) (by kernel_rfl) (by kernel_rfl) (fun _ _ _ h => h) ⟨by rfl, ?_⟩ ?_
  rotate_left
  · intro X hI; obtain ⟨q1, q2⟩ := hI; go_simp; try go_bits
    try rw [if_pos (by omega)]
    try with_reducible rfl
  refine wpI_take (i := 8) (v := ?_) rfl (by kernel_rfl) (by kernel_rfl) (by kernel_rfl) (fun _ _ _ h => h) ⟨by rfl, ?_⟩ ?_
  rotate_left
  · intro X hI; go_simp; try go_bits
    try rw [if_pos (by omega)]
    try with_reducible rfl
  refine wpI_only (i := 9) rfl (by kernel_rfl) ⟨c2, c1⟩ (by rfl) ?_
  intro K hK
  go_simp
  go_wp2_with (go_at_call 84; rw [decide_eq_false (show ¬ a < n by omega)]; (with_reducible refine (need_no 3 _).mono ?_); rintro e w' ⟨rfl, hw⟩; obtain rfl := hw.symm)
  exact ⟨rfl, rfl, ⟨rfl, rfl, rfl, Nat.le_refl _, fun _ _ => rfl⟩⟩

set_option maxHeartbeats 4000000 in
theorem next_some {w : World} {G Bx n a : Nat} {v : Value} {b : Nat → Int} (h : Rdr w G Bx v n a b) (ha : a < n) (hn : n ≤ 1048576) : Calls Tryd.prog 90 #[.pointer (some ⟨G, 0, none⟩)] w fun e w' => e = .returned (.int .i64 (b a)) ∧ Rdr w' G Bx v n (a + 1) b ∧ Only G w w' := by
  have HR : Hid (Rdr w G Bx v n a b) := h
  obtain ⟨c0, c1, c2, z2, bx, bl, il⟩ := h
  clear il bx bl
  go_enter Tryd.func90, Tryd.ntmps90
  go_upto_region 1 with fail
  refine wp_region_any (by kernel_rfl) ?_
  change wpAny _ _ _ _ _ _ _ (World.drew _)
  refine wpI_any (I := fun X => X.cell? ⟨G, 2, none⟩ = some (.int .i64 (a : Int)) ∧ X.cell? ⟨G, 1, none⟩ = some (.int .i64 (n : Int))) _ _ _ _ ?_
  refine wpI_take (i := 0) (v := ?_) rfl (by kernel_rfl) (by kernel_rfl) (by kernel_rfl) (fun _ _ _ h => h) ⟨by rfl, ?_⟩ ?_
  rotate_left
  · intro X hI; go_simp; try go_bits
    try rw [if_pos (by omega)]
    try with_reducible rfl
  refine wpI_take (i := 1) (v := ?_) rfl (by kernel_rfl) (by kernel_rfl) (by kernel_rfl) (fun _ _ _ h => h) ⟨by rfl, ?_⟩ ?_
  rotate_left
  · intro X hI; go_simp; try go_bits
    try rw [if_pos (by omega)]
    try with_reducible rfl
  refine wpI_take (i := 2) (v := ?_) rfl (by kernel_rfl) (by kernel_rfl) (by kernel_rfl) (fun _ _ _ h => h) ⟨by rfl, ?_⟩ ?_
  rotate_left
  · intro X hI; go_simp; try go_bits
    try rw [if_pos (by omega)]
    try with_reducible rfl
  refine wpI_take (i := 3) (v := ?_) rfl (by kernel_rfl) (by kernel_rfl) (by kernel_rfl) (fun _ _ _ h => h) ⟨by rfl, ?_⟩ ?_
  rotate_left
  · intro X hI; obtain ⟨q1, q2⟩ := hI; go_simp; try go_bits
    try rw [if_pos (by omega)]
    try with_reducible rfl
  refine wpI_take (i := 4) (v := ?_) rfl (by kernel_rfl) (by kernel_rfl) (by kernel_rfl) (fun _ _ _ h => h) ⟨by rfl, ?_⟩ ?_
  rotate_left
  · intro X hI; go_simp; try go_bits
    try rw [if_pos (by omega)]
    try with_reducible rfl
  refine wpI_take (i := 5) (v := ?_) rfl (by kernel_rfl) (by kernel_rfl) (by kernel_rfl) (fun _ _ _ h => h) ⟨by rfl, ?_⟩ ?_
  rotate_left
  · intro X hI; go_simp; try go_bits
    try rw [if_pos (by omega)]
    try with_reducible rfl
  refine wpI_take (i := 6) (v := ?_) rfl (by kernel_rfl) (by kernel_rfl) (by kernel_rfl) (fun _ _ _ h => h) ⟨by rfl, ?_⟩ ?_
  rotate_left
  · intro X hI; go_simp; try go_bits
    try rw [if_pos (by omega)]
    try with_reducible rfl
  refine wpI_take (i := 7) (v := ?_) rfl (by kernel_rfl) (by kernel_rfl) (by kernel_rfl) (fun _ _ _ h => h) ⟨by rfl, ?_⟩ ?_
  rotate_left
  · intro X hI; obtain ⟨q1, q2⟩ := hI; go_simp; try go_bits
    try rw [if_pos (by omega)]
    try with_reducible rfl
  refine wpI_take (i := 8) (v := ?_) rfl (by kernel_rfl) (by kernel_rfl) (by kernel_rfl) (fun _ _ _ h => h) ⟨by rfl, ?_⟩ ?_
  rotate_left
  · intro X hI; go_simp; try go_bits
    try rw [if_pos (by omega)]
    try with_reducible rfl
  refine wpI_only (i := 9) rfl (by kernel_rfl) ⟨c2, c1⟩ (by rfl) ?_
  intro K hK
  go_simp
  go_wp2_with (go_at_call 84; (try rw [decide_eq_true (show a < n by omega)]); (with_reducible refine (need_yes 3 _).mono ?_); rintro e w' ⟨rfl, hw⟩; obtain rfl := hw.symm)
  refine wpI_done ⟨c2, c1⟩ (by kernel_rfl) ?_ _
  obtain ⟨a1, ha1⟩ : ∃ a1, a1 = a + 1 := ⟨_, rfl⟩
  have HR1 : Hid (Rdr (w.setCell ⟨G, 2, none⟩ (.int .i64 (a1 : Int))).drew G Bx v n a1 b) := (HR.out.put a1).below (Below.refl _ _).drew
  have ON1 : Hid (Only G w (w.setCell ⟨G, 2, none⟩ (.int .i64 (a1 : Int))).drew) := (by have h := (Only.refl G w).put 2 (.int .i64 (a1 : Int)); exact ⟨h.os, h.tape, h.output, h.size, h.block⟩)
  have e1 : (a : Int) + 1 = (a1 : Int) := by omega
  have e2 : (a1 : Int) - 1 = (a : Int) := by omega
  have HA1 : Hid (a1 = a + 1) := ha1
  clear ha1
  go_upto_region 3 with fail
  generalize (w.setCell ⟨G, 2, none⟩ (.int .i64 (a1 : Int))).drew = W at *
  have d0 := HR1.out.c0
  have d2 := HR1.out.c2
  have HBT : Hid (∀ X, Below W.heap.size W X → Calls Tryd.prog 74 #[.int .i64 (a : Int), .pointer (some ⟨Bx, 0, none⟩)] X fun e w' => e = .returned (.int .i64 (b a)) ∧ w' = X) := fun X hX => bit_any (HR1.out.below hX) ha hn
  clear c0 c1 c2 z2 e1
  refine wp_region_any (by kernel_rfl) ?_
  change wpAny _ _ _ _ _ _ _ (World.drew _)
  refine wpI_any (I := fun X => X.cell? ⟨G, 2, none⟩ = some (.int .i64 (a1 : Int)) ∧ X.cell? ⟨G, 0, none⟩ = some (.func (.func 74) #[] #[.pointer (some ⟨Bx, 0, none⟩)])) _ _ _ _ ?_
  refine wpI_take (i := 0) (v := ?_) rfl (by kernel_rfl) (by kernel_rfl) (by kernel_rfl) (fun _ _ _ h => h) ⟨by rfl, ?_⟩ ?_
  rotate_left
  · intro X hI; go_simp; try go_bits
    try rw [if_pos (by omega)]
    try with_reducible rfl
  refine wpI_take (i := 1) (v := ?_) rfl (by kernel_rfl) (by kernel_rfl) (by kernel_rfl) (fun _ _ _ h => h) ⟨by rfl, ?_⟩ ?_
  rotate_left
  · intro X hI; go_simp; try go_bits
    try rw [if_pos (by omega)]
    try with_reducible rfl
  refine wpI_take (i := 2) (v := ?_) rfl (by kernel_rfl) (by kernel_rfl) (by kernel_rfl) (fun _ _ _ h => h) ⟨by rfl, ?_⟩ ?_
  rotate_left
  · intro X hI; go_simp; try go_bits
    try rw [if_pos (by omega)]
    try with_reducible rfl
  refine wpI_take (i := 3) (v := ?_) rfl (by kernel_rfl) (by kernel_rfl) (by kernel_rfl) (fun _ _ _ h => h) ⟨by rfl, ?_⟩ ?_
  rotate_left
  · intro X hI; obtain ⟨q1, q2⟩ := hI; go_simp; try go_bits
    try rw [if_pos (by omega)]
    try with_reducible rfl
  refine wpI_take (i := 4) (v := ?_) rfl (by kernel_rfl) (by kernel_rfl) (by kernel_rfl) (fun _ _ _ h => h) ⟨by rfl, ?_⟩ ?_
  rotate_left
  · intro X hI; go_simp; try go_bits
    try rw [if_pos (by omega)]
    try with_reducible rfl
  refine wpI_take (i := 5) (v := ?_) rfl (by kernel_rfl) (by kernel_rfl) (by kernel_rfl) (fun _ _ _ h => h) ⟨by rfl, ?_⟩ ?_
  rotate_left
  · intro X hI; go_simp; try go_bits
    try rw [if_pos (by omega)]
    try with_reducible rfl
  refine wpI_take (i := 6) (v := ?_) rfl (by kernel_rfl) (by kernel_rfl) (by kernel_rfl) (fun _ _ _ h => h) ⟨by rfl, ?_⟩ ?_
  rotate_left
  · intro X hI; go_simp; try go_bits
    try rw [if_pos (by omega)]
    try with_reducible rfl
  refine wpI_take (i := 7) (v := ?_) rfl (by kernel_rfl) (by kernel_rfl) (by kernel_rfl) (fun _ _ _ h => h) ⟨by rfl, ?_⟩ ?_
  rotate_left
  · intro X hI; obtain ⟨q1, q2⟩ := hI; go_simp; try go_bits
    try rw [if_pos (by omega)]
    try with_reducible rfl
  refine wpI_take (i := 8) (v := ?_) rfl (by kernel_rfl) (by kernel_rfl) (by kernel_rfl) (fun _ _ _ h => h) ⟨by rfl, ?_⟩ ?_
  rotate_left
  · intro X hI; go_simp; try go_bits
    try rw [if_pos (by omega)]
    try with_reducible rfl
  refine wpI_only (i := 9) rfl (by kernel_rfl) ⟨d2, d0⟩ (by rfl) ?_
  intro K hK
  go_simp
  go_wp2_with (go_at_call 74; (with_reducible refine (HBT.out _ (Below.refl _ _).drew).mono ?_); rintro e w' ⟨rfl, hw⟩; obtain rfl := hw.symm)
  refine wpI_take (i := 10) (v := ?_) rfl (by kernel_rfl) (by kernel_rfl) (by kernel_rfl) (fun _ _ _ h => h) ⟨by rfl, ?_⟩ ?_
  rotate_left
  · intro X hI; go_simp; try go_bits
    try rw [if_pos (by omega)]
    try with_reducible rfl
  refine wpI_done ⟨d2, d0⟩ (by kernel_rfl) ?_ _
  go_wp2
  go_ret
  rw [← HA1.out]
  exact ⟨rfl, HR1.out.below (Below.refl _ _).drew, ⟨ON1.out.os, ON1.out.tape, ON1.out.output, ON1.out.size, ON1.out.block⟩⟩
end Go.Proofs.YtndagpompioooaaDoor
