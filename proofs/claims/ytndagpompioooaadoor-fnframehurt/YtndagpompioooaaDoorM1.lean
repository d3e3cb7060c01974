/- YB YC YD YE YF. -/
import Derived.Test.YtndagpompioooaaDoorUB
import Derived.Test.YtndagpompioooaaDoorBY
import Derived.RegionTactic
import Derived.BigQuiet
import Derived.Test.YtndagpompioooaaDoorUC
import Derived.Test.YtndagpompioooaaDoorUD
import Derived.Test.YtndagpompioooaaDoorCI
import Derived.Laws.BytesArg
namespace Go.Proofs.YtndagpompioooaaDoor
open Go.RowKit

/-- The bits of bytes, a byte's highest bit first. -/
def bob (y : Nat → Int) (i : Nat) : Int := (y (i / 8) / 2 ^ (7 - i % 8)) % 2

theorem bob_bit (y : Nat → Int) (i : Nat) : Bit (bob y i) := by
  have h : bob y i = 0 ∨ bob y i = 1 := by unfold bob; omega
  exact h

/-- A reader of bytes in the block G: its bytes' variable lies in the block Bx. -/
structure Rdb (W : World) (G Bx : Nat) (v : Value) (n a : Nat) (b : Nat → Int) : Prop where
  c0 : W.cell? ⟨G, 0, none⟩ = some (.func (.func 93) #[] #[.pointer (some ⟨Bx, 0, none⟩)])
  c1 : W.cell? ⟨G, 1, none⟩ = some (.int .i64 (n : Int))
  c2 : W.cell? ⟨G, 2, none⟩ = some (.int .i64 (a : Int))
  z2 : W.frozen? ⟨G, 2, none⟩ = false
  bx : W.cell? ⟨Bx, 0, none⟩ = some v
  bl : Bx < G
  il : ∃ ao m cap y, v = .slice ao m cap ∧ n = 8 * m ∧ b = bob y ∧ m ≤ cap ∧ (0 < m → ∃ bb off, ao = some ⟨bb, off, none⟩ ∧ bb < G ∧ ∀ k, k < m → (0 ≤ y k ∧ y k < 256) ∧ W.cell? ⟨bb, off + k, none⟩ = some (.int .u8 (y k)))

theorem Rdb.lt {W : World} {G Bx n a : Nat} {v : Value} {b : Nat → Int} (h : Rdb W G Bx v n a b) : G < W.heap.size := World.block_lt_of_cell? W _ h.c1
theorem Rdb.at {W W' : World} {G Bx n a B : Nat} {v : Value} {b : Nat → Int} (h : Rdb W G Bx v n a b) (hb : Below B W W') (hG : G < B) : Rdb W' G Bx v n a b := by
  obtain ⟨ao, m, cap, y, rfl, hm, hy, hcap, hc⟩ := h.il
  refine ⟨(hb.cell hG).trans h.c0, (hb.cell hG).trans h.c1, (hb.cell hG).trans h.c2, (hb.frozen hG).trans h.z2, (hb.cell (Nat.lt_trans h.bl hG)).trans h.bx, h.bl, _, _, _, y, rfl, hm, hy, hcap, fun h0 => ?_⟩
  obtain ⟨bb, off, e1, e2, e3⟩ := hc h0
  exact ⟨bb, off, e1, e2, fun k hk => ⟨(e3 k hk).1, (hb.cell (p := ⟨bb, off + k, none⟩) (Nat.lt_trans e2 hG)).trans (e3 k hk).2⟩⟩
theorem Rdb.below {W W' : World} {G Bx n a : Nat} {v : Value} {b : Nat → Int} (h : Rdb W G Bx v n a b) (hb : Below W.heap.size W W') : Rdb W' G Bx v n a b := h.at hb h.lt
theorem Rdb.put {W : World} {G Bx n a : Nat} {v : Value} {b : Nat → Int} (h : Rdb W G Bx v n a b) (a' : Nat) : Rdb (W.setCell ⟨G, 2, none⟩ (.int .i64 (a' : Int))) G Bx v n a' b := by
  obtain ⟨ao, m, cap, y, rfl, hm, hy, hcap, hc⟩ := h.il
  have ho : Only G W (W.setCell ⟨G, 2, none⟩ (.int .i64 (a' : Int))) := (Only.refl G W).put 2 _
  have hk : ∀ (k off : Nat), k ≠ G → (W.setCell ⟨G, 2, none⟩ (.int .i64 (a' : Int))).cell? ⟨k, off, none⟩ = W.cell? ⟨k, off, none⟩ := fun k off hk => World.cell?_of_block (w := W) (ho.block k hk)
  refine ⟨by simp [go_sem, h.c0], by simp [go_sem, h.c1], World.cell?_setCell_same' _ _ _ (by rw [h.c2]; rfl), by simp [go_sem, h.z2], (hk Bx 0 (Nat.ne_of_lt h.bl)).trans h.bx, h.bl, _, _, _, y, rfl, hm, hy, hcap, fun h0 => ?_⟩
  obtain ⟨bb, off, e1, e2, e3⟩ := hc h0
  exact ⟨bb, off, e1, e2, fun k hk' => ⟨(e3 k hk').1, (hk bb (off + k) (Nat.ne_of_lt e2)).trans (e3 k hk').2⟩⟩

theorem i64_and1b (n : Int) : bits .and .i64 n 1 = n % 2 := by
  have h : (BitVec.ofInt 64 1).toNat = 2 ^ 1 - 1 := by decide
  have key : (BitVec.ofInt 64 n &&& BitVec.ofInt 64 1).toNat = (n % ((2 ^ 64 : Nat) : Int)).toNat % 2 ^ 1 := by
    rw [BitVec.toNat_and, BitVec.toNat_ofInt, h, Nat.and_two_pow_sub_one_eq_mod]
  show IntKind.i64.wrap ((BitVec.ofInt 64 n &&& BitVec.ofInt 64 1).toNat : Nat) = n % 2
  rw [key, IntKind.wrap_i64]
  omega

theorem bbit_any {w : World} {G Bx n a i : Nat} {v : Value} {b : Nat → Int} (h : Rdb w G Bx v n a b) (hi : i < n) (hn : n ≤ 1099511627776) : Calls Tryd.prog 93 #[.int .i64 (i : Int), .pointer (some ⟨Bx, 0, none⟩)] w fun e w' => e = .returned (.int .i64 (b i)) ∧ w' = w := by
  obtain ⟨ao, m, cap, y, rfl, hm, rfl, hcap, hc⟩ := h.il
  obtain ⟨bb, off, rfl, hlt, hcell⟩ := hc (by omega)
  obtain ⟨q, r, hqr, hr⟩ : ∃ q r : Nat, i = 8 * q + r ∧ r < 8 := ⟨i / 8, i % 8, by omega, by omega⟩
  have hq : i / 8 = q := by omega
  have hr2 : i % 8 = r := by omega
  obtain ⟨⟨y0, y1⟩, c1⟩ := hcell q (by omega)
  have c0 := h.bx
  have hqm : q < m := by omega
  unfold bob
  rw [hq, hr2]
  have d1 : (i : Int).tdiv 8 = (q : Int) := by rw [Int.tdiv_eq_ediv_of_nonneg (by omega)]; omega
  have d2 : (i : Int).tmod 8 = (r : Int) := by rw [Int.tmod_eq_emod_of_nonneg (by omega)]; omega
  have d3 : (i : Int) / 8 = (q : Int) := by omega
  have d4 : (i : Int) % 8 = (r : Int) := by omega
  generalize y q = z at *
  clear hcell hc h hq hr2 hqr
  obtain rfl | rfl | rfl | rfl | rfl | rfl | rfl | rfl : r = 0 ∨ r = 1 ∨ r = 2 ∨ r = 3 ∨ r = 4 ∨ r = 5 ∨ r = 6 ∨ r = 7 := by omega
  all_goals
    go_enter Tryd.func93, Tryd.ntmps93
    go_wp2
    go_ret
  all_goals
    rw [i64_and1b]
    first
      | exact ⟨rfl, rfl⟩
      | exact ⟨congrArg (fun q => Ending.returned (.int .i64 (q % 2))) (Int.ediv_one z).symm, rfl⟩

set_option maxHeartbeats 4000000 in
theorem bnext_none {w : World} {G Bx n a : Nat} {v : Value} {b : Nat → Int} (h : Rdb w G Bx v n a b) (ha : n ≤ a) (_ : n ≤ 1099511627776) (_ : a ≤ 1099511627776) : Calls Tryd.prog 90 #[.pointer (some ⟨G, 0, none⟩)] w fun e w' => e = pan 3 ∧ Only G w w' := by
  obtain ⟨c0, c1, c2, z2, bx, bl, il⟩ := h
  clear il bx c0 z2 bl
  go_enter Tryd.func90, Tryd.ntmps90
  go_upto_region 1 with fail
  refine wp_region_any (by kernel_rfl) ?_
  change wpAny _ _ _ _ _ _ _ (World.drew _)
  refine wpI_any (I := fun X => X.cell? ⟨G, 2, none⟩ = some (.int .i64 (a : Int)) ∧ X.cell? ⟨G, 1, none⟩ = some (.int .i64 (n : Int))) _ _ _ _ ?_
  refine wpI_take (i := 0) (v := ?_) rfl (by kernel_rfl) (by kernel_rfl) (by kernel_rfl) (fun _ _ _ h => h) ⟨by rfl, ?_⟩ ?_
  rotate_left
  · intro X hI; go_simp; try go_bits
    try rw [if_pos (by omega)]
    try with_reducible rfl
  refine wpI_take (i := 1) (v := ?_) rfl (by kernel_rfl) (by kernel_rfl) (by kernel_rfl) (fun _ _ _ h => h) ⟨by rfl, ?_⟩ ?_
  rotate_left
  · intro X hI; go_simp; try go_bits
    try rw [if_pos (by omega)]
    try with_reducible rfl
  refine wpI_take (i := 2) (v := ?_) rfl (by kernel_rfl) (by kernel_rfl) (by kernel_rfl) (fun _ _ _ h => h) ⟨by rfl, ?_⟩ ?_
  rotate_left
  · intro X hI; go_simp; try go_bits
    try rw [if_pos (by omega)]
    try with_reducible rfl
  refine wpI_take (i := 3) (v := ?_) rfl (by kernel_rfl) (by kernel_rfl) (by kernel_rfl) (fun _ _ _ h => h) ⟨by rfl, ?_⟩ ?_
  rotate_left
  · intro X hI; obtain ⟨q1, q2⟩ := hI; go_simp; try go_bits
    try rw [if_pos (by omega)]
    try with_reducible rfl
  refine wpI_take (i := 4) (v := ?_) rfl (by kernel_rfl) (by kernel_rfl) (by kernel_rfl) (fun _ _ _ h => h) ⟨by rfl, ?_⟩ ?_
  rotate_left
  · intro X hI; go_simp; try go_bits
    try rw [if_pos (by omega)]
    try with_reducible rfl
  refine wpI_take (i := 5) (v := ?_) rfl (by kernel_rfl) (by kernel_rfl) (by kernel_rfl) (fun _ _ _ h => h) ⟨by rfl, ?_⟩ ?_
  rotate_left
  · intro X hI; go_simp; try go_bits
    try rw [if_pos (by omega)]
    try with_reducible rfl
  refine wpI_take (i := 6) (v := ?_) rfl (by kernel_rfl) (by kernel_rfl) (by kernel_rfl) (fun _ _ _ h => h) ⟨by rfl, ?_⟩ ?_
  rotate_left
  · intro X hI; go_simp; try go_bits
    try rw [if_pos (by omega)]
    try with_reducible rfl
  refine wpI_take (i := 7) (v := ?_) rfl (by kernel_rfl) (by kernel_rfl) (by kernel_rfl) (fun _ _ _ h => h) ⟨by rfl, ?_⟩ ?_
  rotate_left
  · intro X hI; obtain ⟨q1, q2⟩ := hI; go_simp; try go_bits
    try rw [if_pos (by omega)]
    try with_reducible rfl
  refine wpI_take (i := 8) (v := ?_) rfl (by kernel_rfl) (by kernel_rfl) (by kernel_rfl) (fun _ _ _ h => h) ⟨by rfl, ?_⟩ ?_
  rotate_left
  · intro X hI; go_simp; try go_bits
    try rw [if_pos (by omega)]
    try with_reducible rfl
  refine wpI_only (i := 9) rfl (by kernel_rfl) ⟨c2, c1⟩ (by rfl) ?_
  intro K hK
  go_simp
  go_wp2_with (go_at_call 84; rw [decide_eq_false (show ¬ a < n by omega)]; (with_reducible refine (need_no 3 _).mono ?_); rintro e w' ⟨rfl, hw⟩; obtain rfl := hw.symm)
  exact ⟨rfl, rfl, ⟨rfl, rfl, rfl, Nat.le_refl _, fun _ _ => rfl⟩⟩

set_option maxHeartbeats 4000000 in
theorem bnext_some {w : World} {G Bx n a : Nat} {v : Value} {b : Nat → Int} (h : Rdb w G Bx v n a b) (ha : a < n) (hn : n ≤ 1099511627776) : Calls Tryd.prog 90 #[.pointer (some ⟨G, 0, none⟩)] w fun e w' => e = .returned (.int .i64 (b a)) ∧ Rdb w' G Bx v n (a + 1) b ∧ Only G w w' := by
  have HR : Hid (Rdb w G Bx v n a b) := h
  obtain ⟨c0, c1, c2, z2, bx, bl, il⟩ := h
  clear il bx bl
  go_enter Tryd.func90, Tryd.ntmps90
  go_upto_region 1 with fail
  refine wp_region_any (by kernel_rfl) ?_
  change wpAny _ _ _ _ _ _ _ (World.drew _)
  refine wpI_any (I := fun X => X.cell? ⟨G, 2, none⟩ = some (.int .i64 (a : Int)) ∧ X.cell? ⟨G, 1, none⟩ = some (.int .i64 (n : Int))) _ _ _ _ ?_
  refine wpI_take (i := 0) (v := ?_) rfl (by kernel_rfl) (by kernel_rfl) (by kernel_rfl) (fun _ _ _ h => h) ⟨by rfl, ?_⟩ ?_
  rotate_left
  · intro X hI; go_simp; try go_bits
    try rw [if_pos (by omega)]
    try with_reducible rfl
  refine wpI_take (i := 1) (v := ?_) rfl (by kernel_rfl) (by kernel_rfl) (by kernel_rfl) (fun _ _ _ h => h) ⟨by rfl, ?_⟩ ?_
  rotate_left
  · intro X hI; go_simp; try go_bits
    try rw [if_pos (by omega)]
    try with_reducible rfl
  refine wpI_take (i := 2) (v := ?_) rfl (by kernel_rfl) (by kernel_rfl) (by kernel_rfl) (fun _ _ _ h => h) ⟨by rfl, ?_⟩ ?_
  rotate_left
  · intro X hI; go_simp; try go_bits
    try rw [if_pos (by omega)]
    try with_reducible rfl
  refine wpI_take (i := 3) (v := ?_) rfl (by kernel_rfl) (by kernel_rfl) (by kernel_rfl) (fun _ _ _ h => h) ⟨by rfl, ?_⟩ ?_
  rotate_left
  · intro X hI; obtain ⟨q1, q2⟩ := hI; go_simp; try go_bits
    try rw [if_pos (by omega)]
    try with_reducible rfl
  refine wpI_take (i := 4) (v := ?_) rfl (by kernel_rfl) (by kernel_rfl) (by kernel_rfl) (fun _ _ _ h => h) ⟨by rfl, ?_⟩ ?_
  rotate_left
  · intro X hI; go_simp; try go_bits
    try rw [if_pos (by omega)]
    try with_reducible rfl
  refine wpI_take (i := 5) (v := ?_) rfl (by kernel_rfl) (by kernel_rfl) (by kernel_rfl) (fun _ _ _ h => h) ⟨by rfl, ?_⟩ ?_
  rotate_left
  · intro X hI; go_simp; try go_bits
    try rw [if_pos (by omega)]
    try with_reducible rfl
  refine wpI_take (i := 6) (v := ?_) rfl (by kernel_rfl) (by kernel_rfl) (by kernel_rfl) (fun _ _ _ h => h) ⟨by rfl, ?_⟩ ?_
  rotate_left
  · intro X hI; go_simp; try go_bits
    try rw [if_pos (by omega)]
    try with_reducible rfl
  refine wpI_take (i := 7) (v := ?_) rfl (by kernel_rfl) (by kernel_rfl) (by kernel_rfl) (fun _ _ _ h => h) ⟨by rfl, ?_⟩ ?_
  rotate_left
  · intro X hI; obtain ⟨q1, q2⟩ := hI; go_simp; try go_bits
    try rw [if_pos (by omega)]
    try with_reducible rfl
  refine wpI_take (i := 8) (v := ?_) rfl (by kernel_rfl) (by kernel_rfl) (by kernel_rfl) (fun _ _ _ h => h) ⟨by rfl, ?_⟩ ?_
  rotate_left
  · intro X hI; go_simp; try go_bits
    try rw [if_pos (by omega)]
    try with_reducible rfl
  refine wpI_only (i := 9) rfl (by kernel_rfl) ⟨c2, c1⟩ (by rfl) ?_
  intro K hK
  go_simp
  go_wp2_with (go_at_call 84; (try rw [decide_eq_true (show a < n by omega)]); (with_reducible refine (need_yes 3 _).mono ?_); rintro e w' ⟨rfl, hw⟩; obtain rfl := hw.symm)
  refine wpI_done ⟨c2, c1⟩ (by kernel_rfl) ?_ _
  obtain ⟨a1, ha1⟩ : ∃ a1, a1 = a + 1 := ⟨_, rfl⟩
  have HR1 : Hid (Rdb (w.setCell ⟨G, 2, none⟩ (.int .i64 (a1 : Int))).drew G Bx v n a1 b) := (HR.out.put a1).below (Below.refl _ _).drew
  have ON1 : Hid (Only G w (w.setCell ⟨G, 2, none⟩ (.int .i64 (a1 : Int))).drew) := (by have h := (Only.refl G w).put 2 (.int .i64 (a1 : Int)); exact ⟨h.os, h.tape, h.output, h.size, h.block⟩)
  have e1 : (a : Int) + 1 = (a1 : Int) := by omega
  have e2 : (a1 : Int) - 1 = (a : Int) := by omega
  have HA1 : Hid (a1 = a + 1) := ha1
  clear ha1
  go_upto_region 3 with fail
  generalize (w.setCell ⟨G, 2, none⟩ (.int .i64 (a1 : Int))).drew = W at *
  have d0 := HR1.out.c0
  have d2 := HR1.out.c2
  have HBT : Hid (∀ X, Below W.heap.size W X → Calls Tryd.prog 93 #[.int .i64 (a : Int), .pointer (some ⟨Bx, 0, none⟩)] X fun e w' => e = .returned (.int .i64 (b a)) ∧ w' = X) := fun X hX => bbit_any (HR1.out.below hX) ha hn
  clear c0 c1 c2 z2 e1
  refine wp_region_any (by kernel_rfl) ?_
  change wpAny _ _ _ _ _ _ _ (World.drew _)
  refine wpI_any (I := fun X => X.cell? ⟨G, 2, none⟩ = some (.int .i64 (a1 : Int)) ∧ X.cell? ⟨G, 0, none⟩ = some (.func (.func 93) #[] #[.pointer (some ⟨Bx, 0, none⟩)])) _ _ _ _ ?_
  refine wpI_take (i := 0) (v := ?_) rfl (by kernel_rfl) (by kernel_rfl) (by kernel_rfl) (fun _ _ _ h => h) ⟨by rfl, ?_⟩ ?_
  rotate_left
  · intro X hI; go_simp; try go_bits
    try rw [if_pos (by omega)]
    try with_reducible rfl
  refine wpI_take (i := 1) (v := ?_) rfl (by kernel_rfl) (by kernel_rfl) (by kernel_rfl) (fun _ _ _ h => h) ⟨by rfl, ?_⟩ ?_
  rotate_left
  · intro X hI; go_simp; try go_bits
    try rw [if_pos (by omega)]
    try with_reducible rfl
  refine wpI_take (i := 2) (v := ?_) rfl (by kernel_rfl) (by kernel_rfl) (by kernel_rfl) (fun _ _ _ h => h) ⟨by rfl, ?_⟩ ?_
  rotate_left
  · intro X hI; go_simp; try go_bits
    try rw [if_pos (by omega)]
    try with_reducible rfl
  refine wpI_take (i := 3) (v := ?_) rfl (by kernel_rfl) (by kernel_rfl) (by kernel_rfl) (fun _ _ _ h => h) ⟨by rfl, ?_⟩ ?_
  rotate_left
  · intro X hI; obtain ⟨q1, q2⟩ := hI; go_simp; try go_bits
    try rw [if_pos (by omega)]
    try with_reducible rfl
  refine wpI_take (i := 4) (v := ?_) rfl (by kernel_rfl) (by kernel_rfl) (by kernel_rfl) (fun _ _ _ h => h) ⟨by rfl, ?_⟩ ?_
  rotate_left
  · intro X hI; go_simp; try go_bits
    try rw [if_pos (by omega)]
    try with_reducible rfl
  refine wpI_take (i := 5) (v := ?_) rfl (by kernel_rfl) (by kernel_rfl) (by kernel_rfl) (fun _ _ _ h => h) ⟨by rfl, ?_⟩ ?_
  rotate_left
  · intro X hI; go_simp; try go_bits
    try rw [if_pos (by omega)]
    try with_reducible rfl
  refine wpI_take (i := 6) (v := ?_) rfl (by kernel_rfl) (by kernel_rfl) (by kernel_rfl) (fun _ _ _ h => h) ⟨by rfl, ?_⟩ ?_
  rotate_left
  · intro X hI; go_simp; try go_bits
    try rw [if_pos (by omega)]
    try with_reducible rfl
  refine wpI_take (i := 7) (v := ?_) rfl (by kernel_rfl) (by kernel_rfl) (by kernel_rfl) (fun _ _ _ h => h) ⟨by rfl, ?_⟩ ?_
  rotate_left
  · intro X hI; obtain ⟨q1, q2⟩ := hI; go_simp; try go_bits
    try rw [if_pos (by omega)]
    try with_reducible rfl
  refine wpI_take (i := 8) (v := ?_) rfl (by kernel_rfl) (by kernel_rfl) (by kernel_rfl) (fun _ _ _ h => h) ⟨by rfl, ?_⟩ ?_
  rotate_left
  · intro X hI; go_simp; try go_bits
    try rw [if_pos (by omega)]
    try with_reducible rfl
  refine wpI_only (i := 9) rfl (by kernel_rfl) ⟨d2, d0⟩ (by rfl) ?_
  intro K hK
  go_simp
  go_wp2_with (go_at_call 93; (with_reducible refine (HBT.out _ (Below.refl _ _).drew).mono ?_); rintro e w' ⟨rfl, hw⟩; obtain rfl := hw.symm)
  refine wpI_take (i := 10) (v := ?_) rfl (by kernel_rfl) (by kernel_rfl) (by kernel_rfl) (fun _ _ _ h => h) ⟨by rfl, ?_⟩ ?_
  rotate_left
  · intro X hI; go_simp; try go_bits
    try rw [if_pos (by omega)]
    try with_reducible rfl
  refine wpI_done ⟨d2, d0⟩ (by kernel_rfl) ?_ _
  go_wp2
  go_ret
  rw [← HA1.out]
  exact ⟨rfl, HR1.out.below (Below.refl _ _).drew, ⟨ON1.out.os, ON1.out.tape, ON1.out.output, ON1.out.size, ON1.out.block⟩⟩
end Go.Proofs.YtndagpompioooaaDoor

namespace Go.Proofs.YtndagpompioooaaDoor
open Go.RowKit

/-- What reading one number comes to. -/
def Bmr (w w' : World) (e : Ending) (G Bx : Nat) (v : Value) (n k a : Nat) (b : Nat → Int) : Prop :=
  (∃ u a', rd1 b n k a = some (u, a') ∧ e = .returned (.int .i64 (unf u)) ∧ Rdb w' G Bx v n a' b ∧ Only G w w') ∨ (rd1 b n k a = none ∧ e = pan 3 ∧ Only G w w')

set_option maxRecDepth 20000 in
set_option maxHeartbeats 16000000 in
theorem bnumber_any {w : World} {G Bx n a k : Nat} {v : Value} {b : Nat → Int} (h : Rdb w G Bx v n a b) (hb : ∀ i, i < n → Bit (b i)) (hn : n ≤ 1099511627776) (ha : a ≤ n) (hk : k ≤ 30) :
    Calls Tryd.prog 77 #[.pointer (some ⟨G, 0, none⟩), .int .i64 (k : Int)] w fun e w' => Bmr w w' e G Bx v n k a b := by
  have HR : Hid (Rdb w G Bx v n a b) := h
  have HB : Hid (∀ i, i < n → Bit (b i)) := hb
  obtain ⟨p, hp⟩ : ∃ p : Nat, p = 2 ^ k := ⟨_, rfl⟩
  have hp1 : 1 ≤ p ∧ p ≤ 1073741824 := by
    rw [hp]
    exact ⟨Nat.one_le_two_pow, Nat.pow_le_pow_right (by omega) hk⟩
  have e1 : (2 : Int) ^ k = (p : Int) := by rw [hp, Int.natCast_pow]; rfl
  have HP : Hid (p = 2 ^ k) := hp
  clear h hb hp
  go_enter Tryd.func77, Tryd.ntmps77
  go_wp2
  go_loopw [5] (fun hv wr => ∃ j h : Nat, hv = .int .i64 (h : Int) ∧ a + j ≤ n ∧ h ≤ 2000000000 ∧ Hid (h = j * p ∧ ∀ i, i < j → b (a + i) = 1) ∧ Hid (Rdb wr G Bx v n (a + j) b) ∧ Hid (Only G w wr)) (fun hv _ => 2000000001 - (intOf hv).toNat)
  case atStart => exact ⟨0, 0, rfl, by omega, by omega, ⟨(Nat.zero_mul _).symm, fun i hi => absurd hi (Nat.not_lt_zero _)⟩, HR.out, Only.refl _ _⟩
  case round =>
    clear HR
    obtain ⟨j, h, rfl, haj, hh, HJ, HR, HO⟩ := hrel
    by_cases h1 : a + j < n
    · rcases HB.out (a + j) h1 with hx | hx
      · -- a nought ends the ones
        have HX : Hid (b (a + j) = 0) := hx
        have HQ : Hid (run1 b n a = j) := run1_eq (by omega) HJ.out.2 (.inr (by rw [hx]; decide))
        clear hx
        go_wp2_with (first
          | (go_at_call 90; refine (bnext_some HR.out h1 hn).mono ?_; rw [HX.out]; rintro e w2 ⟨rfl, hr, ho⟩; have HR : Hid (Rdb w2 G Bx v n (a + j + 1) b) := hr; have HO : Hid (Only G w w2) := HO.out.trans ho; clear hr ho))
        go_loopw [6, 18] (fun lv cv wr => ∃ c l : Nat, lv = .int .i64 (l : Int) ∧ cv = .int .i64 (c : Int) ∧ c ≤ k ∧ l < 1073741824 ∧ a + j + 1 + c ≤ n ∧ Hid (l = bv b (a + j + 1) c) ∧ Hid (Rdb wr G Bx v n (a + j + 1 + c) b) ∧ Hid (Only G w wr)) (fun _ cv _ => k - (intOf cv).toNat)
        case atStart => exact ⟨0, 0, rfl, rfl, by omega, by omega, by omega, rfl, HR.out, HO.out⟩
        case round =>
          clear HR HO
          obtain ⟨c, l, rfl, rfl, hc, hl, hac, HL, HR, HO⟩ := hrel
          by_cases h2 : c < k
          · by_cases h3 : a + j + 1 + c < n
            · have hlt := bv_lt (b := b) (f := a + j + 1) (c + 1) (fun i hi => HB.out _ (by omega))
              have hpw : (2 : Nat) ^ (c + 1) ≤ 2 ^ 30 := Nat.pow_le_pow_right (by omega) (by omega)
              have HL2 : Hid (l * 2 + (b (a + j + 1 + c)).toNat = bv b (a + j + 1) (c + 1)) := by show _ = bv b (a + j + 1) c * 2 + _; rw [HL.out]
              rw [← HL2.out] at hlt
              have hbt := HB.out _ h3
              obtain ⟨y, hy⟩ : ∃ y : Nat, b (a + j + 1 + c) = (y : Int) := ⟨(b (a + j + 1 + c)).toNat, by rcases hbt with e | e <;> rw [e] <;> rfl⟩
              have HY : Hid (b (a + j + 1 + c) = (y : Int)) := hy
              rw [hy, Int.toNat_natCast] at hlt HL2
              have hy1 : y ≤ 1 := by rcases hbt with e | e <;> rw [hy] at e <;> omega
              clear hy hbt
              go_wp2_with (first
                | (go_at_call 90; refine (bnext_some HR.out h3 hn).mono ?_; rw [HY.out]; rintro e w2 ⟨rfl, hr, ho⟩; have HR : Hid (Rdb w2 G Bx v n (a + j + 1 + (c + 1)) b) := hr; have HO : Hid (Only G w w2) := HO.out.trans ho; clear hr ho))
              go_roundw
              case rel => exact ⟨c + 1, l * 2 + y, by congr 1; omega, by go_num, by omega, by omega, by omega, HL2.out, HR.out, HO.out⟩
              case measure => simp [intOf]; omega
            · have HF : Hid (rd1 b n k a = none) := rd1_no HQ.out (fun h9 => by have := h9.2.2.2.1; omega)
              go_wp2_with (first
                | (go_at_call 90; refine (bnext_none HR.out (by omega) hn (by omega)).mono ?_; rintro e w2 ⟨rfl, ho⟩; have HO : Hid (Only G w w2) := HO.out.trans ho; clear ho))
              exact ⟨rfl, .inr ⟨HF.out, rfl, HO.out⟩⟩
          · have e9 : k = c := by omega
            subst e9
            by_cases h3 : h + l ≤ 2000000000
            · have HF : Hid (rd1 b n k a = some (h + l, a + j + 1 + k)) := by
                have := rd1_yes (k := k) HQ.out h1 HX.out (by rw [← HP.out, ← HJ.out.1]; exact hh) hac (fun i hi => HB.out _ (by omega)) (by rw [← HP.out, ← HJ.out.1, ← HL.out]; exact h3)
                rw [← HP.out, ← HJ.out.1, ← HL.out] at this
                exact this
              have iu := unf_any h3
              have e8 : (h : Int) + (l : Int) = ((h + l : Nat) : Int) := by omega
              obtain ⟨u, hu⟩ : ∃ u, u = h + l := ⟨_, rfl⟩
              rw [← hu] at HF iu h3 e8
              clear hu
              go_wp2_with (first
                | (go_at_call 84; (first | rw [decide_eq_true (show u ≤ 2000000000 by omega)] | rw [decide_eq_true (show (u : Int) ≤ 2000000000 by omega)] | skip); (with_reducible refine (need_yes 3 _).mono ?_); rintro e w' ⟨rfl, hw⟩; obtain rfl := hw.symm)
                | (go_at_call 91; (with_reducible refine (iu _).mono ?_); rintro e w' ⟨rfl, hw⟩; obtain rfl := hw.symm))
              go_ret
              exact .inl ⟨u, _, HF.out, rfl, HR.out, HO.out⟩
            · have HF : Hid (rd1 b n k a = none) := rd1_no HQ.out (fun h9 => by have := h9.2.2.2.2.2; rw [← HP.out, ← HJ.out.1, ← HL.out] at this; omega)
              have e8 : (h : Int) + (l : Int) = ((h + l : Nat) : Int) := by omega
              obtain ⟨u, hu⟩ : ∃ u, u = h + l := ⟨_, rfl⟩
              rw [← hu] at h3 e8
              have hu2 : u ≤ 4000000000 := by omega
              clear hu
              go_wp2_with (first
                | (go_at_call 84; (first | rw [decide_eq_false (show ¬ u ≤ 2000000000 by omega)] | rw [decide_eq_false (show ¬ (u : Int) ≤ 2000000000 by omega)] | skip); (with_reducible refine (need_no 3 _).mono ?_); rintro e w' ⟨rfl, hw⟩; obtain rfl := hw.symm))
              exact ⟨rfl, .inr ⟨HF.out, rfl, HO.out⟩⟩
      · have HX : Hid (b (a + j) = 1) := hx
        have HJ2 : Hid (h + p = (j + 1) * p ∧ ∀ i, i < j + 1 → b (a + i) = 1) := ⟨by rw [HJ.out.1, Nat.add_mul, Nat.one_mul], fun i hi => by
          by_cases hij : i = j
          · rw [hij]; exact HX.out
          · exact HJ.out.2 i (by omega)⟩
        clear hx
        have e8 : (h : Int) + (p : Int) = ((h + p : Nat) : Int) := by omega
        obtain ⟨h2, hh2⟩ : ∃ h2, h2 = h + p := ⟨_, rfl⟩
        rw [← hh2] at HJ2 e8
        have hh3 : h2 ≤ 4000000000 ∧ h < h2 := by omega
        clear hh2
        by_cases h3 : h2 ≤ 2000000000
        · go_wp2_with (first
            | (go_at_call 90; refine (bnext_some HR.out h1 hn).mono ?_; rw [HX.out]; rintro e w2 ⟨rfl, hr, ho⟩; have HR : Hid (Rdb w2 G Bx v n (a + (j + 1)) b) := hr; have HO : Hid (Only G w w2) := HO.out.trans ho; clear hr ho)
            | (go_at_call 84; (first | rw [decide_eq_true (show h2 ≤ 2000000000 by omega)] | rw [decide_eq_true (show (h2 : Int) ≤ 2000000000 by omega)] | skip); (with_reducible refine (need_yes 3 _).mono ?_); rintro e w' ⟨rfl, hw⟩; obtain rfl := hw.symm))
          go_roundw
          case rel => exact ⟨j + 1, h2, by go_num, by omega, by omega, HJ2.out, HR.out, HO.out⟩
          case measure => simp [intOf]; omega
        · have HF : Hid (rd1 b n k a = none) := rd1_long (q := j + 1) (by omega) HJ2.out.2 (by rw [← HP.out, ← HJ2.out.1]; omega)
          go_wp2_with (first
            | (go_at_call 90; refine (bnext_some HR.out h1 hn).mono ?_; rw [HX.out]; rintro e w2 ⟨rfl, hr, ho⟩; have HO : Hid (Only G w w2) := HO.out.trans ho; clear hr ho)
            | (go_at_call 84; (first | rw [decide_eq_false (show ¬ h2 ≤ 2000000000 by omega)] | rw [decide_eq_false (show ¬ (h2 : Int) ≤ 2000000000 by omega)] | skip); (with_reducible refine (need_no 3 _).mono ?_); rintro e w' ⟨rfl, hw⟩; obtain rfl := hw.symm))
          exact ⟨rfl, .inr ⟨HF.out, rfl, HO.out⟩⟩
    · have HF : Hid (rd1 b n k a = none) := rd1_no (run1_eq (q := j) (by omega) HJ.out.2 (.inl (by omega))) (fun h9 => h1 h9.1)
      go_wp2_with (first
        | (go_at_call 90; refine (bnext_none HR.out (by omega) hn (by omega)).mono ?_; rintro e w2 ⟨rfl, ho⟩; have HO : Hid (Only G w w2) := HO.out.trans ho; clear ho))
      exact ⟨rfl, .inr ⟨HF.out, rfl, HO.out⟩⟩

theorem bnumber_some {w : World} {G Bx n a k u a' : Nat} {v : Value} {b : Nat → Int} (h : Rdb w G Bx v n a b) (hb : ∀ i, i < n → Bit (b i)) (hn : n ≤ 1099511627776) (ha : a ≤ n) (hk : k ≤ 30) (hq : rd1 b n k a = some (u, a')) :
    Calls Tryd.prog 77 #[.pointer (some ⟨G, 0, none⟩), .int .i64 (k : Int)] w fun e w' => e = .returned (.int .i64 (unf u)) ∧ Rdb w' G Bx v n a' b ∧ Only G w w' := by
  refine (bnumber_any h hb hn ha hk).mono ?_
  rintro e w' (⟨u2, a2, h1, rfl, h2, h3⟩ | ⟨h1, _⟩)
  · rw [hq] at h1
    injection h1 with h1
    injection h1 with e1 e2
    subst e1 e2
    exact ⟨rfl, h2, h3⟩
  · rw [hq] at h1; cases h1
theorem bnumber_none {w : World} {G Bx n a k : Nat} {v : Value} {b : Nat → Int} (h : Rdb w G Bx v n a b) (hb : ∀ i, i < n → Bit (b i)) (hn : n ≤ 1099511627776) (ha : a ≤ n) (hk : k ≤ 30) (hq : rd1 b n k a = none) :
    Calls Tryd.prog 77 #[.pointer (some ⟨G, 0, none⟩), .int .i64 (k : Int)] w fun e w' => e = pan 3 ∧ Only G w w' := by
  refine (bnumber_any h hb hn ha hk).mono ?_
  rintro e w' (⟨u2, a2, h1, _⟩ | ⟨_, rfl, h3⟩)
  · rw [hq] at h1; cases h1
  · exact ⟨rfl, h3⟩
end Go.Proofs.YtndagpompioooaaDoor

namespace Go.Proofs.YtndagpompioooaaDoor
open Go.RowKit

/-- What numbers tells: the numbers, or a panic. -/
def Bms (w w' : World) (e : Ending) (G Bx : Nat) (v : Value) (n k m : Nat) (b : Nat → Int) : Prop :=
  (∃ R a' u, rdn b n k m = some (R, a') ∧ e = .returned u ∧ w'.ownsRow w.heap.size 3 1 u R.length (ils (lf R) R.length) ∧ Rdb w' G Bx v n a' b ∧ Keep G w w') ∨ (rdn b n k m = none ∧ e = pan 3 ∧ Keep G w w')

set_option maxRecDepth 20000 in
set_option maxHeartbeats 8000000 in
theorem bnumbers_any {w : World} {G Bx n k m : Nat} {v : Value} {b : Nat → Int} (h : Rdb w G Bx v n 0 b) (hb : ∀ i, i < n → Bit (b i)) (hn : n ≤ 1099511627776) (hk : k ≤ 30) (hm : m ≤ 128) :
    Calls Tryd.prog 52 #[.pointer (some ⟨G, 0, none⟩), .int .i64 (k : Int), .int .i64 (m : Int)] w fun e w' => Bms w w' e G Bx v n k m b := by
  obtain ⟨i0, hi, hz0, hz1, hz2⟩ := info_parts Tryd.info3
  have HB : Hid (∀ i, i < n → Bit (b i)) := hb
  have HR0 : Hid (Rdb (w.alloc (.cells #[] 3)) G Bx v n 0 b) := h.below (below_one _ _)
  have hGw : G < w.heap.size := h.lt
  have OW : Hid ((w.alloc (.cells #[] 3)).ownsRow w.heap.size 3 1 (.slice (some ⟨w.heap.size, 0, none⟩) 0 0) 0 []) := own_empty w 3 1
  have KP : Hid (Keep G w (w.alloc (.cells #[] 3))) := (Keep.refl G w).call (below_one _ _)
  clear h hb
  go_enter Tryd.func52, Tryd.ntmps52
  go_wp2
  generalize w.alloc (.cells #[] 3) = W at *
  go_loopw [7, 10] (fun q iv wr => ∃ (j a : Nat) (R : List Int), iv = .int .i64 j ∧ j ≤ m ∧ a ≤ n ∧ R.length = j ∧ Hid (rdn b n k j = some (R, a)) ∧ Hid (wr.ownsRow w.heap.size 3 1 q R.length (ils (lf R) R.length)) ∧ Hid (Rdb wr G Bx v n a b) ∧ Hid (Keep G w wr)) (fun _ iv _ => m - (intOf iv).toNat)
  case atStart => exact ⟨0, 0, [], rfl, by omega, by omega, rfl, rfl, OW.out, HR0.out, KP.out⟩
  case round =>
    clear OW HR0 KP
    obtain ⟨j, a, R, rfl, hj, ha, hR, HN, HO, HR, HK⟩ := hrel
    have hs9 : w.heap.size ≤ wr.heap.size := HK.out.size
    by_cases h1 : j < m
    · cases hq : rd1 b n k a with
      | none =>
        have HF : Hid (rdn b n k m = none) := rdn_none (rdn_stop HN.out hq) m (by omega)
        have HQ : Hid (rd1 b n k a = none) := hq
        clear hq
        go_wp2_with (first
          | (go_at_call 77; refine (bnumber_none HR.out HB.out hn ha hk HQ.out).mono ?_; rintro e w2 ⟨rfl, ho⟩; have HK : Hid (Keep G w w2) := HK.out.trans ho.keep; clear ho))
        exact ⟨rfl, .inr ⟨HF.out, rfl, HK.out⟩⟩
      | some p =>
        obtain ⟨u, a'⟩ := p
        have HQ : Hid (rd1 b n k a = some (u, a')) := hq
        obtain ⟨hu, _, ha', _⟩ := rd1_told hq
        have HX : Hid (rdn b n k (j + 1) = some (R ++ [unf u], a')) := rdn_next HN.out hq
        have hui := unf_in hu
        have hl9 := len_snoc R (unf u)
        obtain ⟨x, hx⟩ : ∃ x, x = unf u := ⟨_, rfl⟩
        have HXU : Hid (x = unf u) := hx
        rw [← hx] at HX hl9 hui
        clear hq hx
        go_wp2_with (first
          | (go_at_call 77; refine (bnumber_some HR.out HB.out hn ha hk HQ.out).mono ?_; rw [← HXU.out]; rintro e w2 ⟨rfl, hr, ho⟩; have HO3 : Hid ((w2.alloc (.cells #[.int .i64 x] 3)).ownsRow w.heap.size 3 1 _ R.length (ils (lf R) R.length)) := own_below (own_only HO.out ho hGw) (below_one _ _); have hs3 : w.heap.size ≤ (w2.alloc (.cells #[.int .i64 x] 3)).heap.size := Nat.le_trans (Nat.le_trans hs9 ho.size) (below_one _ _).size; have hs2 : w.heap.size ≤ w2.heap.size := Nat.le_trans hs9 ho.size; have HR2 : Hid (Rdb w2 G Bx v n a' b) := hr; have HK2 : Hid (Keep G w w2) := HK.out.trans ho.keep; clear hr ho)
          | (at_builtin; refine wpList_append_own _ rfl _ _ 24 rfl w.heap.size 3 i0 (.int .i64 0) 1 8 Tryd.underlying24 hi hz0 hz1 hz2 rfl (by decide) _ _ _ rfl HO3.out ⟨w2.heap.size, 0, none⟩ 1 1 [.int .i64 x] rfl rfl (one_new _ _ _) (by simp [Value.oneCell']) (by unfold maxLen; omega) (by omega) hs3 ?_; intro v' w4 hown' hgrow _; have HO4 : Hid (w4.ownsRow w.heap.size 3 1 v' (R ++ [x]).length (ils (lf (R ++ [x])) (R ++ [x]).length)) := ol_snoc hown'; have BG : Hid (Below w.heap.size w2 w4) := grown_below ((below_one w2 _).mono hs2) hs2 HO3.out hgrow; clear hown' hgrow))
        go_roundw
        case rel => exact ⟨j + 1, a', R ++ [x], by go_num, by omega, ha', by rw [hl9, hR], HX.out, HO4.out, HR2.out.at BG.out hGw, HK2.out.below BG.out⟩
        case measure => simp [intOf]; omega
    · obtain rfl : j = m := by omega
      go_wp2
      go_ret
      exact .inl ⟨R, a, _, HN.out, rfl, HO.out, HR.out, HK.out⟩
end Go.Proofs.YtndagpompioooaaDoor

namespace Go.Proofs.YtndagpompioooaaDoor
open Go.RowKit

theorem breader_any {w : World} {v : Value} {m : Nat} {y : Nat → Int} (hv : Bl w v m y) (hy : ∀ k, k < m → 0 ≤ y k ∧ y k < 256) (hm : m ≤ 1048576) : Calls Tryd.prog 86 #[v] w fun e w' => e = .returned (.pointer (some ⟨w.heap.size + 1, 0, none⟩)) ∧ Rdb w' (w.heap.size + 1) w.heap.size v (8 * m) 0 (bob y) ∧ Below w.heap.size w w' ∧ w'.heap.size = w.heap.size + 2 := by
  have hmf : ∀ (fn : Fn) (first cap : Array Value) (w : World), (Instr.makeFunc fn first cap).run Tryd.prog w = .ok (.func fn first cap) w := fun _ _ _ _ => rfl
  have HV : Hid (Bl w v m y) := hv
  have HY : Hid (∀ k, k < m → 0 ≤ y k ∧ y k < 256) := hy
  obtain ⟨ao, cap, rfl, hcap, hc⟩ := hv
  obtain ⟨n, hn⟩ : ∃ n : Nat, n = 8 * m := ⟨_, rfl⟩
  have HN : Hid (n = 8 * m) := hn
  rw [← hn]
  have e1 : (m : Int) * 8 = (n : Int) := by omega
  have hn2 : n ≤ 8388608 := by omega
  clear hc hy hn
  go_enter Tryd.func86, Tryd.ntmps86
  go_wp2
  go_ret
  refine ⟨rfl, ?_, bstep (below_one _ _) (below_one _ _), by simp⟩
  have hs : (w.alloc (.cells #[.slice ao m cap] 22)).heap.size = w.heap.size + 1 := Array.size_push _
  refine ⟨by simp, by simp, by simp, by simp, by simp, by omega, _, _, _, y, rfl, HN.out, rfl, hcap, fun h0 => ?_⟩
  obtain ⟨_, _, e, _, h9⟩ := HV.out
  injection e with e1 e2 e3
  subst e1
  obtain ⟨bb, off, f1, f2, f3⟩ := h9 h0
  refine ⟨bb, off, f1, by omega, fun k hk => ⟨HY.out k hk, ?_⟩⟩
  exact ((bstep (below_one w _) (below_one _ _)).cell (p := ⟨bb, off + k, none⟩) f2).trans (f3 k hk)
end Go.Proofs.YtndagpompioooaaDoor

namespace Go.Proofs.YtndagpompioooaaDoor
open Go.RowKit

theorem bstr_any {w : World} {v : Value} {n : Nat} {xs : Nat → Int} (hv : Bl w v n xs) (W : World) (hb : Below w.heap.size w W) : (convert 22 9 v).run Tryd.prog W = .ok (.string (strOfNums ((List.range n).map xs))) W := by
  obtain ⟨ao, cap, rfl, hcap, hc⟩ := hv
  rcases Nat.eq_zero_or_pos n with rfl | h0
  · cases ao with
    | none => exact run_convert_bytes_nil _ 22 5 Tryd.underlying22 Tryd.underlying5 0 cap 9 Tryd.underlying9
    | some p =>
      rw [run_convert_bytes_string W 22 9 5 _ _ _ Tryd.underlying22 Tryd.underlying5 Tryd.underlying9]
      rw [run_bytesToString W p 0 cap [] (by simp [loadCells, loadCellsFrom])]
      rfl
  · obtain ⟨b, off, rfl, hlt, hcell⟩ := hc h0
    refine run_convert_bytes_arg W 22 5 Tryd.underlying22 Tryd.underlying5 b off n cap _ (by simp) (fun i hi => ?_) 9 Tryd.underlying9
    rw [(hb.cell (p := ⟨b, off + i, none⟩) hlt).trans (hcell i hi)]
    simp [hi]

theorem str_eq {n m : Nat} {xs ys : Nat → Int} (h1 : Byt n xs) (h2 : Byt m ys) : ((strOfNums ((List.range n).map xs)).toList == (strOfNums ((List.range m).map ys)).toList) = decide (n = m ∧ ∀ k, k < n → xs k = ys k) := by
  rw [Bool.eq_iff_iff, beq_iff_eq, decide_eq_true_iff]
  constructor
  · intro h
    have h3 := h
    rw [ByteArray.toList_eq, ByteArray.toList_eq] at h3
    simp only [strOfNums_data, List.map_map] at h3
    have hl := congrArg List.length h3
    simp at hl
    subst hl
    refine ⟨rfl, fun k hk => ?_⟩
    have h4 := congrArg (fun l => l[k]?) h3
    simp [hk] at h4
    have e1 := congrArg UInt8.toNat h4
    have a1 := h1 k hk
    have a2 := h2 k hk
    simp at e1
    omega
  · rintro ⟨rfl, h⟩
    congr 2
    apply List.map_congr_left
    intro i hi
    exact h i (List.mem_range.1 hi)

theorem equal_any {w : World} {v1 v2 : Value} {n m : Nat} {xs ys : Nat → Int} (h1 : Bl w v1 n xs) (h2 : Bl w v2 m ys) (b1 : Byt n xs) (b2 : Byt m ys) :
    Calls Tryd.prog 88 #[v1, v2] w fun e w' => e = .returned (.bool (decide (n = m ∧ ∀ k, k < n → xs k = ys k))) ∧ w' = w := by
  have c1 := bstr_any h1 w (Below.refl _ _)
  have c2 := bstr_any h2 w (Below.refl _ _)
  rw [← str_eq b1 b2]
  obtain ⟨a1, k1, rfl, _⟩ := h1
  obtain ⟨a2, k2, rfl, _⟩ := h2
  generalize strOfNums ((List.range n).map xs) = s1 at *
  generalize strOfNums ((List.range m).map ys) = s2 at *
  go_enter Tryd.func88, Tryd.ntmps88
  go_wp2
  go_ret
  exact ⟨rfl, rfl⟩
end Go.Proofs.YtndagpompioooaaDoor
