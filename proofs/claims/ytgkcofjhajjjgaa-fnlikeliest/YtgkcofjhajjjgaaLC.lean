/- A path that goes on by a bit. -/
import Derived.Test.YtgkcofjhajjjgaaLB
import Derived.Test.YtgkcofjhajjjgaaSC
import Derived.Test.YtgkcofjhajjjgaaSO
namespace Go.Proofs.Ytgkcofjhajjjgaa
open Go.RowKit

/-- A path in a block. -/
structure Pam (W : World) (g : Nat) (c l s : Int) (p : Value) : Prop where
  c0 : W.cell? ⟨g, 0, none⟩ = some (.int .i64 c)
  c1 : W.cell? ⟨g, 1, none⟩ = some (.int .i64 l)
  c2 : W.cell? ⟨g, 2, none⟩ = some (.int .i64 s)
  c3 : W.cell? ⟨g, 3, none⟩ = some p
  z0 : W.frozen? ⟨g, 0, none⟩ = false
  z1 : W.frozen? ⟨g, 1, none⟩ = false
  z2 : W.frozen? ⟨g, 2, none⟩ = false
  z3 : W.frozen? ⟨g, 3, none⟩ = false
theorem Pam.lt {W : World} {g : Nat} {c l s : Int} {p : Value} (h : Pam W g c l s p) : g < W.heap.size := World.block_lt_of_cell? W _ h.c0
theorem Pam.at {W W' : World} {g B : Nat} {c l s : Int} {p : Value} (h : Pam W g c l s p) (hb : Below B W W') (hg : g < B) : Pam W' g c l s p :=
  ⟨(hb.cell hg).trans h.c0, (hb.cell hg).trans h.c1, (hb.cell hg).trans h.c2, (hb.cell hg).trans h.c3, (hb.frozen hg).trans h.z0, (hb.frozen hg).trans h.z1, (hb.frozen hg).trans h.z2, (hb.frozen hg).trans h.z3⟩
theorem Pam.below {W W' : World} {g : Nat} {c l s : Int} {p : Value} (h : Pam W g c l s p) (hb : Below W.heap.size W W') : Pam W' g c l s p := h.at hb h.lt
theorem Pam.new (w : World) (c l s : Int) (ao : Option Addr) (n k : Nat) (t : TypeId) : Pam (w.alloc (.cells #[.int .i64 c, .int .i64 l, .int .i64 s, .slice ao n k] t)) w.heap.size c l s (.slice ao n k) := ⟨by simp, by simp, by simp, by simp, by simp, by simp, by simp, by simp⟩
theorem only_four (w : World) (g : Nat) (x y z u : Value) : Only g w ((((w.setCell ⟨g, 0, none⟩ x).setCell ⟨g, 1, none⟩ y).setCell ⟨g, 2, none⟩ z).setCell ⟨g, 3, none⟩ u) := ((((Only.refl g w).put 0 x).put 1 y).put 2 z).put 3 u

theorem one_cell (w : World) (v : Value) (t : TypeId) : (w.alloc (.cells #[v] t)).cell? ⟨w.heap.size, 0, none⟩ = some v := by simp

theorem ils_ex (u : Nat → Nat) (i x : Nat) : ils (wy u) i ++ [.int .i64 (x : Int)] = ils (wy (Tr.ex u i x)) (i + 1) := by
  rw [ils_snoc]
  congr 1
  · exact ils_congr fun k hk => by unfold wy; rw [Tr.ex_sm u i x k hk]
  · unfold wy; rw [Tr.ex_at]

theorem own_pos {w : World} {B n : Nat} {v : Value} {L : List Value} (h : w.ownsRow B 3 1 v n L) (hn : 0 < n) : ∃ g cp, v = .slice (some ⟨g, 0, none⟩) n cp := by
  rcases h.2 with ⟨rfl, h9⟩ | ⟨g, cp, cur, rfl, _⟩
  · omega
  · exact ⟨g, cp, rfl⟩

set_option maxHeartbeats 16000000 in
theorem goOn_any {w : World} {p sf : Value} {M a b i l x N : Nat} {u : Nat → Nat} {s : Int} {xs : Nat → Int} (hp : Il w p i (wy u)) (hf : Il w sf N xs) (hM : 1 ≤ M ∧ M ≤ 6) (ha : a < 128) (hb9 : b < 128) (hi : 2 * i + 1 < N) (hN : N ≤ 252) (hl : l ≤ 63) (hx : x ≤ 1)
    (hs : -26000 ≤ s ∧ s ≤ 26000) (h1 : -100 ≤ xs (2 * i) ∧ xs (2 * i) ≤ 100) (h2 : -100 ≤ xs (2 * i + 1) ∧ xs (2 * i + 1) ≤ 100) :
    Calls Try.prog 60 #[cdv M a b, pav (i : Int) (l : Int) s p, .int .i64 (x : Int), sf] w fun e w' => ∃ v', e = .returned (pav ((i + 1 : Nat) : Int) ((nx M l x : Nat) : Int) (s + gg a b xs i l x) v') ∧ w'.ownsRow w.heap.size 3 1 v' (i + 1) (ils (wy (Tr.ex u i x)) (i + 1)) ∧ Below w.heap.size w w' := by
  obtain ⟨ao, cap, rfl, hcap, hc⟩ := hp
  have HP : Hid (Il w (.slice ao i cap) i (wy u)) := ⟨ao, cap, rfl, hcap, hc⟩
  obtain ⟨so, cs, rfl, hcs, hc2⟩ := hf
  obtain ⟨b9, off9, rfl, hlt9, hcell9⟩ := hc2 (by omega)
  have k1 := hcell9 (2 * i) (by omega)
  have k2 := hcell9 (2 * i + 1) hi
  have KK1 : Hid (w.cell? ⟨b9, off9 + 2 * i, none⟩ = some (.int .i64 (xs (2 * i)))) := k1
  have KK2 : Hid (w.cell? ⟨b9, off9 + (2 * i + 1), none⟩ = some (.int .i64 (xs (2 * i + 1)))) := k2
  clear hc hc2 hcell9 k1 k2
  obtain ⟨y1, hy1⟩ : ∃ y, y = xs (2 * i) := ⟨_, rfl⟩
  obtain ⟨y2, hy2⟩ : ∃ y, y = xs (2 * i + 1) := ⟨_, rfl⟩
  rw [← hy1] at h1 KK1
  rw [← hy2] at h2 KK2
  obtain ⟨r, hr⟩ : ∃ r, r = 2 * l + x := ⟨_, rfl⟩
  have hr8 : r < 128 := by omega
  have hrl : 2 * (l : Int) + (x : Int) = (r : Int) := by omega
  have i3 := reg_any (c := (i : Int)) (l := (l : Int)) (x := (x : Int)) (by omega) (by omega)
  rw [hrl] at i3
  have i4 := tells_any (m := (M : Int)) (a := a) (b := b) (r := r) ha hb9 hr8
  have i5 := next_any (m := (M : Int)) (by omega) (a := (a : Int)) (b := (b : Int)) (c := i) (l := l) (x := x) (by omega) (by omega) hx
  rw [Int.toNat_natCast, show (2 * l + x) % 2 ^ M = nx M l x from rfl] at i5
  obtain ⟨p1, hp1⟩ : ∃ p, p = par (r &&& a) := ⟨_, rfl⟩
  obtain ⟨p2, hp2⟩ : ∃ p, p = par (r &&& b) := ⟨_, rfl⟩
  have hl1 : p1 ≤ 1 := by rw [hp1]; exact par_le _
  have hl2 : p2 ≤ 1 := by rw [hp2]; exact par_le _
  rw [← hp1, ← hp2] at i4
  have i6 := tow_any (x := (p1 : Int)) (sz := y1) (by unfold Bit; omega) h1
  have i7 := tow_any (x := (p2 : Int)) (sz := y2) (by unfold Bit; omega) h2
  have t1 := sof_bounds (x := (p1 : Int)) (sz := y1) (by unfold Bit; omega) h1
  have t2 := sof_bounds (x := (p2 : Int)) (sz := y2) (by unfold Bit; omega) h2
  obtain ⟨d1, hd1⟩ : ∃ d, d = y1 * (2 * (p1 : Int) - 1) := ⟨_, rfl⟩
  obtain ⟨d2, hd2⟩ : ∃ d, d = y2 * (2 * (p2 : Int) - 1) := ⟨_, rfl⟩
  rw [← hd1] at i6 t1
  rw [← hd2] at i7 t2
  obtain ⟨s2, hs2⟩ : ∃ s2, s2 = s + d1 + d2 := ⟨_, rfl⟩
  obtain ⟨j, hj⟩ : ∃ j, j = i + 1 := ⟨_, rfl⟩
  obtain ⟨l2, hl9⟩ : ∃ l2, l2 = nx M l x := ⟨_, rfl⟩
  have HS2 : Hid (s2 = s + gg a b xs i l x) := by show s2 = _; rw [hs2, hd1, hd2, hp1, hp2, hr, hy1, hy2]; unfold gg; omega
  have HJ : Hid (j = i + 1) := hj
  have HL2 : Hid (l2 = nx M l x) := hl9
  rw [← hj, ← hl9] at i5
  have e2 : s + d1 + d2 = s2 := hs2.symm
  have hi9 : i ≤ 1000 := by omega
  clear hs2 hj hl9 hd1 hd2 hp1 hp2 hy1 hy2 hrl hr
  go_enter Try.func60, Try.ntmps60
  go_upto_region 1 with (fail)
  have hW : Below w.heap.size w (((w.alloc (.cells #[.int .i64 (M : Int), .int .i64 (a : Int), .int .i64 (b : Int)] 48)).alloc (.cells #[.int .i64 (i : Int), .int .i64 (l : Int), .int .i64 s, .slice ao i cap] 59)).alloc (.cells #[.int .i64 0, .int .i64 0, .int .i64 0, .slice none 0 0] 59)) := bstep (bstep (below_one _ _) (below_one _ _)) (below_one _ _)
  have f0 := ((Cdm.new w M a b 48).below (below_one _ (.cells #[.int .i64 (i : Int), .int .i64 (l : Int), .int .i64 s, .slice ao i cap] 59))).below (below_one _ (.cells #[.int .i64 0, .int .i64 0, .int .i64 0, .slice none 0 0] 59))
  have f1 := (Pam.new (w.alloc (.cells #[.int .i64 (M : Int), .int .i64 (a : Int), .int .i64 (b : Int)] 48)) (i : Int) (l : Int) s ao i cap 59).below (below_one _ (.cells #[.int .i64 0, .int .i64 0, .int .i64 0, .slice none 0 0] 59))
  have f2 := Pam.new ((w.alloc (.cells #[.int .i64 (M : Int), .int .i64 (a : Int), .int .i64 (b : Int)] 48)).alloc (.cells #[.int .i64 (i : Int), .int .i64 (l : Int), .int .i64 s, .slice ao i cap] 59)) 0 0 0 none 0 0 59
  simp only [size_one] at f1 f2
  have hsW : w.heap.size + 3 ≤ (((w.alloc (.cells #[.int .i64 (M : Int), .int .i64 (a : Int), .int .i64 (b : Int)] 48)).alloc (.cells #[.int .i64 (i : Int), .int .i64 (l : Int), .int .i64 s, .slice ao i cap] 59)).alloc (.cells #[.int .i64 0, .int .i64 0, .int .i64 0, .slice none 0 0] 59)).heap.size := by simp only [size_one]; omega
  generalize (((w.alloc (.cells #[.int .i64 (M : Int), .int .i64 (a : Int), .int .i64 (b : Int)] 48)).alloc (.cells #[.int .i64 (i : Int), .int .i64 (l : Int), .int .i64 s, .slice ao i cap] 59)).alloc (.cells #[.int .i64 0, .int .i64 0, .int .i64 0, .slice none 0 0] 59)) = W at *
  refine wp_region_any (by kernel_rfl) ?_
  change wpAny _ _ _ _ _ _ _ (World.drew _)
  refine wpI_any (I := fun X => Below W.heap.size W X) _ _ _ _ ?_
  have l0 : Below W.heap.size W W.drew := (Below.refl _ _).drew
  refine wpI_take (i := 0) (v := ?_) rfl (by kernel_rfl) (by kernel_rfl) (by kernel_rfl) (fun _ _ _ h => h) ⟨by rfl, ?_⟩ ?_
  rotate_left
  · intro X hI; obtain ⟨c0, c1, c2⟩ := f0.at hI f0.lt; go_simp; try go_bits
    try rw [if_pos (by omega)]
    try with_reducible rfl
  refine wpI_take (i := 1) (v := ?_) rfl (by kernel_rfl) (by kernel_rfl) (by kernel_rfl) (fun _ _ _ h => h) ⟨by rfl, ?_⟩ ?_
  rotate_left
  · intro X hI; go_simp; try go_bits
    try rw [if_pos (by omega)]
    try with_reducible rfl
  refine wpI_take (i := 2) (v := ?_) rfl (by kernel_rfl) (by kernel_rfl) (by kernel_rfl) (fun _ _ _ h => h) ⟨by rfl, ?_⟩ ?_
  rotate_left
  · intro X hI; obtain ⟨c0, c1, c2, c3, z0, z1, z2, z3⟩ := f1.at hI f1.lt; go_simp; try go_bits
    try rw [if_pos (by omega)]
    try with_reducible rfl
  refine wpI_take (i := 3) (v := ?_) rfl (by kernel_rfl) (by kernel_rfl) (by kernel_rfl) (fun _ _ _ h => h) ⟨by rfl, ?_⟩ ?_
  rotate_left
  · intro X hI; go_simp; try go_bits
    try rw [if_pos (by omega)]
    try with_reducible rfl
  refine wpI_only (i := 4) rfl (by kernel_rfl) l0 (by rfl) ?_
  intro K hK
  go_simp
  go_wp2_with (go_at_call 34; (with_reducible refine (i3 _).mono ?_); rintro e w5 ⟨rfl, hb⟩; have l1 : Below W.heap.size W w5 := bstep (w := W) l0 hb; clear hb)
  refine wpI_only (i := 5) rfl (by kernel_rfl) l1 (by rfl) ?_
  intro K hK
  go_simp
  go_wp2_with (go_at_call 33; (with_reducible refine (i4 _).mono ?_); rintro e w6 ⟨rfl, hb⟩; have l2 : Below W.heap.size W w6 := bstep (w := W) l1 hb; clear hb)
  refine wpI_take (i := 6) (v := ?_) rfl (by kernel_rfl) (by kernel_rfl) (by kernel_rfl) (fun _ _ _ h => h) ⟨by rfl, ?_⟩ ?_
  rotate_left
  · intro X hI; go_simp; try go_bits
    try rw [if_pos (by omega)]
    try with_reducible rfl
  refine wpI_take (i := 7) (v := ?_) rfl (by kernel_rfl) (by kernel_rfl) (by kernel_rfl) (fun _ _ _ h => h) ⟨by rfl, ?_⟩ ?_
  rotate_left
  · intro X hI; go_simp; try go_bits
    try rw [if_pos (by omega)]
    try with_reducible rfl
  refine wpI_take (i := 8) (v := ?_) rfl (by kernel_rfl) (by kernel_rfl) (by kernel_rfl) (fun _ _ _ h => h) ⟨by rfl, ?_⟩ ?_
  rotate_left
  · intro X hI; go_simp; try go_bits
    try rw [if_pos (by omega)]
    try with_reducible rfl
  refine wpI_take (i := 9) (v := ?_) rfl (by kernel_rfl) (by kernel_rfl) (by kernel_rfl) (fun _ _ _ h => h) ⟨by rfl, ?_⟩ ?_
  rotate_left
  · intro X hI; go_simp; try go_bits
    try rw [if_pos (by omega)]
    try with_reducible rfl
  refine wpI_take (i := 10) (v := ?_) rfl (by kernel_rfl) (by kernel_rfl) (by kernel_rfl) (fun _ _ _ h => h) ⟨by rfl, ?_⟩ ?_
  rotate_left
  · intro X hI; go_simp; try go_bits
    try rw [if_pos (by omega)]
    try with_reducible rfl
  refine wpI_done l2 (by kernel_rfl) ?_ _
  have k0 := f0.below l2
  have k1 := f1.below l2
  have k2 := f2.below l2
  have BV : Hid (Below w.heap.size w w6) := bstep hW l2
  have hsz : w.heap.size + 2 ≤ w6.heap.size := by have := l2.size; omega
  have hsz3 : w.heap.size + 3 ≤ w6.heap.size := by have := l2.size; omega
  have hp := HP.out.below BV.out
  have cs1 := (BV.out.cell (p := ⟨b9, off9 + 2 * i, none⟩) hlt9).trans KK1.out
  have cs2 := (BV.out.cell (p := ⟨b9, off9 + (2 * i + 1), none⟩) hlt9).trans KK2.out
  clear l0 l1 l2 f0 f1 f2 hW hsW HP KK1 KK2 i3 i4
  have a0 := k1.c0
  have a1 := k1.c1
  have a2 := k1.c2
  have a3 := k1.c3
  go_upto_region 4 with (fail)
  clear a0 a1 a2 a3
  generalize w6 = V at *
  refine wp_region_any (by kernel_rfl) ?_
  change wpAny _ _ _ _ _ _ _ (World.drew _)
  refine wpI_any (I := fun X => Below (w.heap.size + 2) V X) _ _ _ _ ?_
  have m0 : Below (w.heap.size + 2) V V.drew := (Below.refl _ _).drew
  have q0 := k2.below (Below.refl _ V).drew
  have p0 := hp.below (Below.refl _ V).drew
  refine wpI_take (i := 0) (v := ?_) rfl (by kernel_rfl) (by kernel_rfl) (by kernel_rfl) (fun _ _ _ h => h) ⟨by rfl, ?_⟩ ?_
  rotate_left
  · intro X hI; obtain ⟨c0, c1, c2⟩ := k0.at hI (by omega); go_simp; try go_bits
    try rw [if_pos (by omega)]
    try with_reducible rfl
  refine wpI_take (i := 1) (v := ?_) rfl (by kernel_rfl) (by kernel_rfl) (by kernel_rfl) (fun _ _ _ h => h) ⟨by rfl, ?_⟩ ?_
  rotate_left
  · intro X hI; go_simp; try go_bits
    try rw [if_pos (by omega)]
    try with_reducible rfl
  refine wpI_take (i := 2) (v := ?_) rfl (by kernel_rfl) (by kernel_rfl) (by kernel_rfl) (fun _ _ _ h => h) ⟨by rfl, ?_⟩ ?_
  rotate_left
  · intro X hI; obtain ⟨c0, c1, c2, c3, z0, z1, z2, z3⟩ := k1.at hI (by omega); go_simp; try go_bits
    try rw [if_pos (by omega)]
    try with_reducible rfl
  refine wpI_take (i := 3) (v := ?_) rfl (by kernel_rfl) (by kernel_rfl) (by kernel_rfl) (fun _ _ _ h => h) ⟨by rfl, ?_⟩ ?_
  rotate_left
  · intro X hI; go_simp; try go_bits
    try rw [if_pos (by omega)]
    try with_reducible rfl
  refine wpI_take (i := 5) (v := ?_) rfl (by kernel_rfl) (by kernel_rfl) (by kernel_rfl) (fun _ _ _ h => h) ⟨by rfl, ?_⟩ ?_
  rotate_left
  · intro X hI; go_simp; try go_bits
    try rw [if_pos (by omega)]
    try with_reducible rfl
  refine wpI_take (i := 6) (v := ?_) rfl (by kernel_rfl) (by kernel_rfl) (by kernel_rfl) (fun _ _ _ h => h) ⟨by rfl, ?_⟩ ?_
  rotate_left
  · intro X hI; obtain ⟨c0, c1, c2, c3, z0, z1, z2, z3⟩ := k1.at hI (by omega); go_simp; try go_bits
    try rw [if_pos (by omega)]
    try with_reducible rfl
  refine wpI_take (i := 7) (v := ?_) rfl (by kernel_rfl) (by kernel_rfl) (by kernel_rfl) (fun _ _ _ h => h) ⟨by rfl, ?_⟩ ?_
  rotate_left
  · intro X hI; go_simp; try go_bits
    try rw [if_pos (by omega)]
    try with_reducible rfl
  refine wpI_take (i := 8) (v := ?_) rfl (by kernel_rfl) (by kernel_rfl) (by kernel_rfl) (fun _ _ _ h => h) ⟨by rfl, ?_⟩ ?_
  rotate_left
  · intro X hI; go_simp; try go_bits
    try rw [if_pos (by omega)]
    try with_reducible rfl
  refine wpI_take (i := 9) (v := ?_) rfl (by kernel_rfl) (by kernel_rfl) (by kernel_rfl) (fun _ _ _ h => h) ⟨by rfl, ?_⟩ ?_
  rotate_left
  · intro X hI; go_simp; try go_bits
    try rw [if_pos (by omega)]
    try with_reducible rfl
  refine wpI_take (i := 10) (v := ?_) rfl (by kernel_rfl) (by kernel_rfl) (by kernel_rfl) (fun _ _ _ h => h) ⟨by rfl, ?_⟩ ?_
  rotate_left
  · intro X hI; go_simp; try go_bits
    try rw [if_pos (by omega)]
    try with_reducible rfl
  refine wpI_take (i := 11) (v := ?_) rfl (by kernel_rfl) (by kernel_rfl) (by kernel_rfl) (fun _ _ _ h => h) ⟨by rfl, ?_⟩ ?_
  rotate_left
  · intro X hI; have cx := (hI.cell (p := ⟨b9, off9 + 2 * i, none⟩) (show b9 < w.heap.size + 2 by omega)).trans cs1; go_simp; try go_bits
    try rw [if_pos (by omega)]
    try with_reducible rfl
  refine wpI_take (i := 14) (v := ?_) rfl (by kernel_rfl) (by kernel_rfl) (by kernel_rfl) (fun _ _ _ h => h) ⟨by rfl, ?_⟩ ?_
  rotate_left
  · intro X hI; go_simp; try go_bits
    try rw [if_pos (by omega)]
    try with_reducible rfl
  refine wpI_take (i := 15) (v := ?_) rfl (by kernel_rfl) (by kernel_rfl) (by kernel_rfl) (fun _ _ _ h => h) ⟨by rfl, ?_⟩ ?_
  rotate_left
  · intro X hI; go_simp; try go_bits
    try rw [if_pos (by omega)]
    try with_reducible rfl
  refine wpI_take (i := 16) (v := ?_) rfl (by kernel_rfl) (by kernel_rfl) (by kernel_rfl) (fun _ _ _ h => h) ⟨by rfl, ?_⟩ ?_
  rotate_left
  · intro X hI; go_simp; try go_bits
    try rw [if_pos (by omega)]
    try with_reducible rfl
  refine wpI_take (i := 17) (v := ?_) rfl (by kernel_rfl) (by kernel_rfl) (by kernel_rfl) (fun _ _ _ h => h) ⟨by rfl, ?_⟩ ?_
  rotate_left
  · intro X hI; go_simp; try go_bits
    try rw [if_pos (by omega)]
    try with_reducible rfl
  refine wpI_take (i := 18) (v := ?_) rfl (by kernel_rfl) (by kernel_rfl) (by kernel_rfl) (fun _ _ _ h => h) ⟨by rfl, ?_⟩ ?_
  rotate_left
  · intro X hI; go_simp; try go_bits
    try rw [if_pos (by omega)]
    try with_reducible rfl
  refine wpI_take (i := 19) (v := ?_) rfl (by kernel_rfl) (by kernel_rfl) (by kernel_rfl) (fun _ _ _ h => h) ⟨by rfl, ?_⟩ ?_
  rotate_left
  · intro X hI; have cx := (hI.cell (p := ⟨b9, off9 + (2 * i + 1), none⟩) (show b9 < w.heap.size + 2 by omega)).trans cs2; go_simp; try go_bits
    try rw [if_pos (by omega)]
    try with_reducible rfl
  refine wpI_take (i := 22) (v := ?_) rfl (by kernel_rfl) (by kernel_rfl) (by kernel_rfl) (fun _ _ _ h => h) ⟨by rfl, ?_⟩ ?_
  rotate_left
  · intro X hI; go_simp; try go_bits
    try rw [if_pos (by omega)]
    try with_reducible rfl
  refine wpI_take (i := 23) (v := ?_) rfl (by kernel_rfl) (by kernel_rfl) (by kernel_rfl) (fun _ _ _ h => h) ⟨by rfl, ?_⟩ ?_
  rotate_left
  · intro X hI; go_simp; try go_bits
    try rw [if_pos (by omega)]
    try with_reducible rfl
  refine wpI_two (i := 4) (j := 24) rfl rfl (by kernel_rfl) m0 (by rfl) (by rfl) ?_ ?_
  · intro K hK
    go_simp
    go_wp2_with (go_at_call 35; (with_reducible refine (i5 _).mono ?_); rintro e y1 ⟨rfl, hb⟩; have m1 := bgo m0 hsz hb; have q1 := q0.below hb; have p1 := p0.below hb; clear hb)
    refine wpI_two (i := 12) (j := 24) rfl rfl (by kernel_rfl) m1 (by rfl) (by rfl) ?_ ?_
    · intro K hK
      go_simp
      go_wp2_with (first | (go_at_call 36; (with_reducible refine (i6 _).mono ?_); rintro e w' ⟨rfl, hw⟩; obtain rfl := hw.symm) | (go_at_call 36; (with_reducible refine (i7 _).mono ?_); rintro e w' ⟨rfl, hw⟩; obtain rfl := hw.symm))
      refine wpI_take (i := 13) (v := ?_) rfl (by kernel_rfl) (by kernel_rfl) (by kernel_rfl) (fun _ _ _ h => h) ⟨by rfl, ?_⟩ ?_
      rotate_left
      · intro X hI; go_simp; try go_bits
        try rw [if_pos (by omega)]
        try with_reducible rfl
      refine wpI_two (i := 20) (j := 24) rfl rfl (by kernel_rfl) m1 (by rfl) (by rfl) ?_ ?_
      · intro K hK
        go_simp
        go_wp2_with (first | (go_at_call 36; (with_reducible refine (i6 _).mono ?_); rintro e w' ⟨rfl, hw⟩; obtain rfl := hw.symm) | (go_at_call 36; (with_reducible refine (i7 _).mono ?_); rintro e w' ⟨rfl, hw⟩; obtain rfl := hw.symm))
        refine wpI_take (i := 21) (v := ?_) rfl (by kernel_rfl) (by kernel_rfl) (by kernel_rfl) (fun _ _ _ h => h) ⟨by rfl, ?_⟩ ?_
        rotate_left
        · intro X hI; go_simp; try go_bits
          try rw [if_pos (by omega)]
          try with_reducible rfl
        refine wpI_only (i := 24) rfl (by kernel_rfl) m1 (by rfl) ?_
        intro K hK
        have m4 := bgo m1 hsz (below_one y1 (.cells #[.int .i64 (x : Int)] 3))
        have q4 := q1.below (below_one y1 (.cells #[.int .i64 (x : Int)] 3))
        have p4 := p1.below (below_one y1 (.cells #[.int .i64 (x : Int)] 3))
        have h4 : (World.alloc y1 (.cells #[.int .i64 (x : Int)] 3)).cell? ⟨y1.heap.size, 0, none⟩ = some (.int .i64 (x : Int)) := one_cell y1 _ _
        go_simp
        refine hK _ _ ?_
        clear hK K
        obtain ⟨v1, w8, hr8, ho8, hb8⟩ := app_closed (g := y1.heap.size) p4 hi9 h4 24
        have m8 := bgo m4 hsz hb8
        have q8 := q4.below hb8
        have hs8 := m4.size
        refine wpI_only (i := 25) rfl (by kernel_rfl) m4 (by rfl) ?_
        intro K hK
        refine Lib.wp_append_run _ _ _ 24 24 rfl _ _ rfl rfl v1 w8 hr8 ?_
        refine hK _ _ ?_
        clear hK K
        obtain ⟨g9, cp9, rfl⟩ := own_pos ho8 (by omega)
        refine wpI_take (i := 26) (v := ?_) rfl (by kernel_rfl) (by kernel_rfl) (by kernel_rfl) (fun _ _ _ h => h) ⟨by rfl, ?_⟩ ?_
        rotate_left
        · intro X hI; go_simp; try go_bits
          try rw [if_pos (by omega)]
          try with_reducible rfl
        refine wpI_only (i := 27) rfl (by kernel_rfl) m8 (by rfl) ?_
        intro K hK
        obtain ⟨c0, c1, c2, c3, z0, z1, z2, z3⟩ := q8
        have m9 : Below (w.heap.size + 2) V ((((w8.setCell ⟨w.heap.size + 1 + 1, 0, none⟩ (.int .i64 (j : Int))).setCell ⟨w.heap.size + 1 + 1, 1, none⟩ (.int .i64 (l2 : Int))).setCell ⟨w.heap.size + 1 + 1, 2, none⟩ (.int .i64 s2)).setCell ⟨w.heap.size + 1 + 1, 3, none⟩ (.slice (some ⟨g9, 0, none⟩) (i + 1) cp9)) := (((m8.setCell (p := ⟨w.heap.size + 1 + 1, 0, none⟩) (Nat.le_refl _) _).setCell (p := ⟨w.heap.size + 1 + 1, 1, none⟩) (Nat.le_refl _) _).setCell (p := ⟨w.heap.size + 1 + 1, 2, none⟩) (Nat.le_refl _) _).setCell (p := ⟨w.heap.size + 1 + 1, 3, none⟩) (Nat.le_refl _) _
        have o9 := own_apart (x := ZV (w.heap.size + 1 + 1)) ho8 (only_four w8 (w.heap.size + 1 + 1) (.int .i64 (j : Int)) (.int .i64 (l2 : Int)) (.int .i64 s2) (.slice (some ⟨g9, 0, none⟩) (i + 1) cp9)) (.inl rfl) (apart_zz (by have := (World.ownsRow.lt ho8 g9 rfl).1; omega))
        go_simp
        refine hK _ _ ?_
        clear hK K
        refine wpI_done m9 (by kernel_rfl) ?_ _
        go_wp2
        refine bodyPost_ret (v := pav (j : Int) (l2 : Int) s2 (.slice (some ⟨g9, 0, none⟩) (i + 1) cp9)) (by simp [results, Try.results60, go_sem, c0, c1, c2, c3]) rfl ⟨_, by rw [HJ.out, HL2.out, HS2.out], ?_, ?_⟩
        · rw [← ils_ex]; exact own_base o9 (by omega)
        · exact BV.out.trans (m9.mono (by omega))
      · intro K hK
        have m5 := bgo m1 hsz (below_one y1 (.cells #[.int .i64 (x : Int)] 3))
        have q5 := q1.below (below_one y1 (.cells #[.int .i64 (x : Int)] 3))
        have p5 := p1.below (below_one y1 (.cells #[.int .i64 (x : Int)] 3))
        have h5 : (World.alloc y1 (.cells #[.int .i64 (x : Int)] 3)).cell? ⟨y1.heap.size, 0, none⟩ = some (.int .i64 (x : Int)) := one_cell y1 _ _
        go_simp
        refine hK _ _ ?_
        clear hK K
        refine wpI_only (i := 20) rfl (by kernel_rfl) m5 (by rfl) ?_
        intro K hK
        go_simp
        go_wp2_with (first | (go_at_call 36; (with_reducible refine (i6 _).mono ?_); rintro e w' ⟨rfl, hw⟩; obtain rfl := hw.symm) | (go_at_call 36; (with_reducible refine (i7 _).mono ?_); rintro e w' ⟨rfl, hw⟩; obtain rfl := hw.symm))
        refine wpI_take (i := 21) (v := ?_) rfl (by kernel_rfl) (by kernel_rfl) (by kernel_rfl) (fun _ _ _ h => h) ⟨by rfl, ?_⟩ ?_
        rotate_left
        · intro X hI; go_simp; try go_bits
          try rw [if_pos (by omega)]
          try with_reducible rfl
        obtain ⟨v1, w8, hr8, ho8, hb8⟩ := app_closed (g := y1.heap.size) p5 hi9 h5 24
        have m8 := bgo m5 hsz hb8
        have q8 := q5.below hb8
        have hs8 := m5.size
        refine wpI_only (i := 25) rfl (by kernel_rfl) m5 (by rfl) ?_
        intro K hK
        refine Lib.wp_append_run _ _ _ 24 24 rfl _ _ rfl rfl v1 w8 hr8 ?_
        refine hK _ _ ?_
        clear hK K
        obtain ⟨g9, cp9, rfl⟩ := own_pos ho8 (by omega)
        refine wpI_take (i := 26) (v := ?_) rfl (by kernel_rfl) (by kernel_rfl) (by kernel_rfl) (fun _ _ _ h => h) ⟨by rfl, ?_⟩ ?_
        rotate_left
        · intro X hI; go_simp; try go_bits
          try rw [if_pos (by omega)]
          try with_reducible rfl
        refine wpI_only (i := 27) rfl (by kernel_rfl) m8 (by rfl) ?_
        intro K hK
        obtain ⟨c0, c1, c2, c3, z0, z1, z2, z3⟩ := q8
        have m9 : Below (w.heap.size + 2) V ((((w8.setCell ⟨w.heap.size + 1 + 1, 0, none⟩ (.int .i64 (j : Int))).setCell ⟨w.heap.size + 1 + 1, 1, none⟩ (.int .i64 (l2 : Int))).setCell ⟨w.heap.size + 1 + 1, 2, none⟩ (.int .i64 s2)).setCell ⟨w.heap.size + 1 + 1, 3, none⟩ (.slice (some ⟨g9, 0, none⟩) (i + 1) cp9)) := (((m8.setCell (p := ⟨w.heap.size + 1 + 1, 0, none⟩) (Nat.le_refl _) _).setCell (p := ⟨w.heap.size + 1 + 1, 1, none⟩) (Nat.le_refl _) _).setCell (p := ⟨w.heap.size + 1 + 1, 2, none⟩) (Nat.le_refl _) _).setCell (p := ⟨w.heap.size + 1 + 1, 3, none⟩) (Nat.le_refl _) _
        have o9 := own_apart (x := ZV (w.heap.size + 1 + 1)) ho8 (only_four w8 (w.heap.size + 1 + 1) (.int .i64 (j : Int)) (.int .i64 (l2 : Int)) (.int .i64 s2) (.slice (some ⟨g9, 0, none⟩) (i + 1) cp9)) (.inl rfl) (apart_zz (by have := (World.ownsRow.lt ho8 g9 rfl).1; omega))
        go_simp
        refine hK _ _ ?_
        clear hK K
        refine wpI_done m9 (by kernel_rfl) ?_ _
        go_wp2
        refine bodyPost_ret (v := pav (j : Int) (l2 : Int) s2 (.slice (some ⟨g9, 0, none⟩) (i + 1) cp9)) (by simp [results, Try.results60, go_sem, c0, c1, c2, c3]) rfl ⟨_, by rw [HJ.out, HL2.out, HS2.out], ?_, ?_⟩
        · rw [← ils_ex]; exact own_base o9 (by omega)
        · exact BV.out.trans (m9.mono (by omega))
    · intro K hK
      have m7 := bgo m1 hsz (below_one y1 (.cells #[.int .i64 (x : Int)] 3))
      have q7 := q1.below (below_one y1 (.cells #[.int .i64 (x : Int)] 3))
      have p7 := p1.below (below_one y1 (.cells #[.int .i64 (x : Int)] 3))
      have h7 : (World.alloc y1 (.cells #[.int .i64 (x : Int)] 3)).cell? ⟨y1.heap.size, 0, none⟩ = some (.int .i64 (x : Int)) := one_cell y1 _ _
      go_simp
      refine hK _ _ ?_
      clear hK K
      refine wpI_only (i := 12) rfl (by kernel_rfl) m7 (by rfl) ?_
      intro K hK
      go_simp
      go_wp2_with (first | (go_at_call 36; (with_reducible refine (i6 _).mono ?_); rintro e w' ⟨rfl, hw⟩; obtain rfl := hw.symm) | (go_at_call 36; (with_reducible refine (i7 _).mono ?_); rintro e w' ⟨rfl, hw⟩; obtain rfl := hw.symm))
      refine wpI_take (i := 13) (v := ?_) rfl (by kernel_rfl) (by kernel_rfl) (by kernel_rfl) (fun _ _ _ h => h) ⟨by rfl, ?_⟩ ?_
      rotate_left
      · intro X hI; go_simp; try go_bits
        try rw [if_pos (by omega)]
        try with_reducible rfl
      refine wpI_only (i := 20) rfl (by kernel_rfl) m7 (by rfl) ?_
      intro K hK
      go_simp
      go_wp2_with (first | (go_at_call 36; (with_reducible refine (i6 _).mono ?_); rintro e w' ⟨rfl, hw⟩; obtain rfl := hw.symm) | (go_at_call 36; (with_reducible refine (i7 _).mono ?_); rintro e w' ⟨rfl, hw⟩; obtain rfl := hw.symm))
      refine wpI_take (i := 21) (v := ?_) rfl (by kernel_rfl) (by kernel_rfl) (by kernel_rfl) (fun _ _ _ h => h) ⟨by rfl, ?_⟩ ?_
      rotate_left
      · intro X hI; go_simp; try go_bits
        try rw [if_pos (by omega)]
        try with_reducible rfl
      obtain ⟨v1, w8, hr8, ho8, hb8⟩ := app_closed (g := y1.heap.size) p7 hi9 h7 24
      have m8 := bgo m7 hsz hb8
      have q8 := q7.below hb8
      have hs8 := m7.size
      refine wpI_only (i := 25) rfl (by kernel_rfl) m7 (by rfl) ?_
      intro K hK
      refine Lib.wp_append_run _ _ _ 24 24 rfl _ _ rfl rfl v1 w8 hr8 ?_
      refine hK _ _ ?_
      clear hK K
      obtain ⟨g9, cp9, rfl⟩ := own_pos ho8 (by omega)
      refine wpI_take (i := 26) (v := ?_) rfl (by kernel_rfl) (by kernel_rfl) (by kernel_rfl) (fun _ _ _ h => h) ⟨by rfl, ?_⟩ ?_
      rotate_left
      · intro X hI; go_simp; try go_bits
        try rw [if_pos (by omega)]
        try with_reducible rfl
      refine wpI_only (i := 27) rfl (by kernel_rfl) m8 (by rfl) ?_
      intro K hK
      obtain ⟨c0, c1, c2, c3, z0, z1, z2, z3⟩ := q8
      have m9 : Below (w.heap.size + 2) V ((((w8.setCell ⟨w.heap.size + 1 + 1, 0, none⟩ (.int .i64 (j : Int))).setCell ⟨w.heap.size + 1 + 1, 1, none⟩ (.int .i64 (l2 : Int))).setCell ⟨w.heap.size + 1 + 1, 2, none⟩ (.int .i64 s2)).setCell ⟨w.heap.size + 1 + 1, 3, none⟩ (.slice (some ⟨g9, 0, none⟩) (i + 1) cp9)) := (((m8.setCell (p := ⟨w.heap.size + 1 + 1, 0, none⟩) (Nat.le_refl _) _).setCell (p := ⟨w.heap.size + 1 + 1, 1, none⟩) (Nat.le_refl _) _).setCell (p := ⟨w.heap.size + 1 + 1, 2, none⟩) (Nat.le_refl _) _).setCell (p := ⟨w.heap.size + 1 + 1, 3, none⟩) (Nat.le_refl _) _
      have o9 := own_apart (x := ZV (w.heap.size + 1 + 1)) ho8 (only_four w8 (w.heap.size + 1 + 1) (.int .i64 (j : Int)) (.int .i64 (l2 : Int)) (.int .i64 s2) (.slice (some ⟨g9, 0, none⟩) (i + 1) cp9)) (.inl rfl) (apart_zz (by have := (World.ownsRow.lt ho8 g9 rfl).1; omega))
      go_simp
      refine hK _ _ ?_
      clear hK K
      refine wpI_done m9 (by kernel_rfl) ?_ _
      go_wp2
      refine bodyPost_ret (v := pav (j : Int) (l2 : Int) s2 (.slice (some ⟨g9, 0, none⟩) (i + 1) cp9)) (by simp [results, Try.results60, go_sem, c0, c1, c2, c3]) rfl ⟨_, by rw [HJ.out, HL2.out, HS2.out], ?_, ?_⟩
      · rw [← ils_ex]; exact own_base o9 (by omega)
      · exact BV.out.trans (m9.mono (by omega))
  · intro K hK
    have m10 := bgo m0 hsz (below_one V.drew (.cells #[.int .i64 (x : Int)] 3))
    have q10 := q0.below (below_one V.drew (.cells #[.int .i64 (x : Int)] 3))
    have p10 := p0.below (below_one V.drew (.cells #[.int .i64 (x : Int)] 3))
    have h10 : (World.alloc V.drew (.cells #[.int .i64 (x : Int)] 3)).cell? ⟨V.heap.size, 0, none⟩ = some (.int .i64 (x : Int)) := one_cell V.drew _ _
    go_simp
    refine hK _ _ ?_
    clear hK K
    refine wpI_only (i := 4) rfl (by kernel_rfl) m10 (by rfl) ?_
    intro K hK
    go_simp
    go_wp2_with (go_at_call 35; (with_reducible refine (i5 _).mono ?_); rintro e y11 ⟨rfl, hb⟩; have m11 := bgo m10 hsz hb; have q11 := q10.below hb; have p11 := p10.below hb; have h11 := (hb.cell (World.block_lt_of_cell? _ _ h10)).trans h10; clear hb)
    refine wpI_only (i := 12) rfl (by kernel_rfl) m11 (by rfl) ?_
    intro K hK
    go_simp
    go_wp2_with (first | (go_at_call 36; (with_reducible refine (i6 _).mono ?_); rintro e w' ⟨rfl, hw⟩; obtain rfl := hw.symm) | (go_at_call 36; (with_reducible refine (i7 _).mono ?_); rintro e w' ⟨rfl, hw⟩; obtain rfl := hw.symm))
    refine wpI_take (i := 13) (v := ?_) rfl (by kernel_rfl) (by kernel_rfl) (by kernel_rfl) (fun _ _ _ h => h) ⟨by rfl, ?_⟩ ?_
    rotate_left
    · intro X hI; go_simp; try go_bits
      try rw [if_pos (by omega)]
      try with_reducible rfl
    refine wpI_only (i := 20) rfl (by kernel_rfl) m11 (by rfl) ?_
    intro K hK
    go_simp
    go_wp2_with (first | (go_at_call 36; (with_reducible refine (i6 _).mono ?_); rintro e w' ⟨rfl, hw⟩; obtain rfl := hw.symm) | (go_at_call 36; (with_reducible refine (i7 _).mono ?_); rintro e w' ⟨rfl, hw⟩; obtain rfl := hw.symm))
    refine wpI_take (i := 21) (v := ?_) rfl (by kernel_rfl) (by kernel_rfl) (by kernel_rfl) (fun _ _ _ h => h) ⟨by rfl, ?_⟩ ?_
    rotate_left
    · intro X hI; go_simp; try go_bits
      try rw [if_pos (by omega)]
      try with_reducible rfl
    obtain ⟨v1, w8, hr8, ho8, hb8⟩ := app_closed (g := V.heap.size) p11 hi9 h11 24
    have m8 := bgo m11 hsz hb8
    have q8 := q11.below hb8
    have hs8 := m11.size
    refine wpI_only (i := 25) rfl (by kernel_rfl) m11 (by rfl) ?_
    intro K hK
    refine Lib.wp_append_run _ _ _ 24 24 rfl _ _ rfl rfl v1 w8 hr8 ?_
    refine hK _ _ ?_
    clear hK K
    obtain ⟨g9, cp9, rfl⟩ := own_pos ho8 (by omega)
    refine wpI_take (i := 26) (v := ?_) rfl (by kernel_rfl) (by kernel_rfl) (by kernel_rfl) (fun _ _ _ h => h) ⟨by rfl, ?_⟩ ?_
    rotate_left
    · intro X hI; go_simp; try go_bits
      try rw [if_pos (by omega)]
      try with_reducible rfl
    refine wpI_only (i := 27) rfl (by kernel_rfl) m8 (by rfl) ?_
    intro K hK
    obtain ⟨c0, c1, c2, c3, z0, z1, z2, z3⟩ := q8
    have m9 : Below (w.heap.size + 2) V ((((w8.setCell ⟨w.heap.size + 1 + 1, 0, none⟩ (.int .i64 (j : Int))).setCell ⟨w.heap.size + 1 + 1, 1, none⟩ (.int .i64 (l2 : Int))).setCell ⟨w.heap.size + 1 + 1, 2, none⟩ (.int .i64 s2)).setCell ⟨w.heap.size + 1 + 1, 3, none⟩ (.slice (some ⟨g9, 0, none⟩) (i + 1) cp9)) := (((m8.setCell (p := ⟨w.heap.size + 1 + 1, 0, none⟩) (Nat.le_refl _) _).setCell (p := ⟨w.heap.size + 1 + 1, 1, none⟩) (Nat.le_refl _) _).setCell (p := ⟨w.heap.size + 1 + 1, 2, none⟩) (Nat.le_refl _) _).setCell (p := ⟨w.heap.size + 1 + 1, 3, none⟩) (Nat.le_refl _) _
    have o9 := own_apart (x := ZV (w.heap.size + 1 + 1)) ho8 (only_four w8 (w.heap.size + 1 + 1) (.int .i64 (j : Int)) (.int .i64 (l2 : Int)) (.int .i64 s2) (.slice (some ⟨g9, 0, none⟩) (i + 1) cp9)) (.inl rfl) (apart_zz (by have := (World.ownsRow.lt ho8 g9 rfl).1; omega))
    go_simp
    refine hK _ _ ?_
    clear hK K
    refine wpI_done m9 (by kernel_rfl) ?_ _
    go_wp2
    refine bodyPost_ret (v := pav (j : Int) (l2 : Int) s2 (.slice (some ⟨g9, 0, none⟩) (i + 1) cp9)) (by simp [results, Try.results60, go_sem, c0, c1, c2, c3]) rfl ⟨_, by rw [HJ.out, HL2.out, HS2.out], ?_, ?_⟩
    · rw [← ils_ex]; exact own_base o9 (by omega)
    · exact BV.out.trans (m9.mono (by omega))
end Go.Proofs.Ytgkcofjhajjjgaa
