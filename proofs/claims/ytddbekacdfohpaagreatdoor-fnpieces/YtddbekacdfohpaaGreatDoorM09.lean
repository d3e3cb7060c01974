/- OH OI OJ OK OL OM ON. -/
import Derived.Test.YtddbekacdfohpaaGreatDoorM07
import Derived.Test.YtddbekacdfohpaaGreatDoorM03
namespace Go.Proofs.YtddbekacdfohpaaGreatDoor
open Go.RowKit

section
variable {P : Program} {md : Region.Mode} {ops : Array Oper} {Q : Exit → Act → World → Prop} {I : World → Prop}
/-- Three operations may come up: each of them. -/
theorem wpI_three {i j l : Nat} {o o2 o3 : Oper} {fuel : Nat} {listed : Array Bool} {a : Act} {w : World} (ho : ops[i]? = some o) (ho2 : ops[j]? = some o2) (ho3 : ops[l]? = some o3) (hr : Region.ready md ops listed = [i, j, l]) (hI : I w)
    (hw : Region.wanted o (yielded ops a.tmps) = true) (hw2 : Region.wanted o2 (yielded ops a.tmps) = true) (hw3 : Region.wanted o3 (yielded ops a.tmps) = true)
    (h : ∀ K : Act → World → Prop, (∀ a w, wpI P md ops Q I fuel (listed.setIfInBounds i true) a w → K a w) → Oper.wp P o a w K Q)
    (h2 : ∀ K : Act → World → Prop, (∀ a w, wpI P md ops Q I fuel (listed.setIfInBounds j true) a w → K a w) → Oper.wp P o2 a w K Q)
    (h3 : ∀ K : Act → World → Prop, (∀ a w, wpI P md ops Q I fuel (listed.setIfInBounds l true) a w → K a w) → Oper.wp P o3 a w K Q) : wpI P md ops Q I (fuel + 1) listed a w := by
  refine ⟨hI, fun e => (by rw [hr] at e; cases e), fun k hk => ?_⟩
  rw [hr] at hk
  have hk' : k = i ∨ k = j ∨ k = l := by simpa using hk
  rcases hk' with rfl | rfl | rfl
  · unfold wpOp
    simp only [ho, hw, if_true]
    exact .inl (h _ fun _ _ h => h)
  · unfold wpOp
    simp only [ho2, hw2, if_true]
    exact .inl (h2 _ fun _ _ h => h)
  · unfold wpOp
    simp only [ho3, hw3, if_true]
    exact .inl (h3 _ fun _ _ h => h)
end

/-- What the call was given. -/
structure Gvn (w : World) (s n j : Nat) (bk : Bool) (v : Value) (xs ys : Nat → Nat) : Prop where
  hs : s = w.heap.size
  hj : j < 8
  hn : n = 2 ^ j
  br : Brj w
  fp : Fp w v n xs ys

/-- What stands, after c calls; the two boxes made or not. -/
structure Sx (w : World) (s n j : Nat) (bk : Bool) (v : Value) (xs ys : Nat → Nat) (c gn G pb gt : Nat) (b7 b8 : Option Nat) (W : World) : Prop where
  gv : Gvn w s n j bk v xs ys
  bel : Below s w W
  bx : W.cell? ⟨s, 0, none⟩ = some (.int .i64 n)
  c1 : 1 ≤ c → Zr W gn n xs ys
  c2 : c = 2 → Whl W G bk ∧ W.cell? ⟨pb, 0, none⟩ = some (.bool bk) ∧ s < G
  c3 : c = 3 → Trn W (zv gt n) n bk gt
  d7 : ∀ b, b7 = some b → W.cell? ⟨b, 0, none⟩ = some (.slice none 0 0) ∧ W.frozen? ⟨b, 0, none⟩ = false ∧ s ≤ b
  d8 : ∀ b, b8 = some b → W.cell? ⟨b, 0, none⟩ = some (.slice none 0 0) ∧ W.frozen? ⟨b, 0, none⟩ = false ∧ s ≤ b
  ne : ∀ b b', b7 = some b → b8 = some b' → b ≠ b'

variable {w : World} {s n j : Nat} {bk : Bool} {v : Value} {xs ys : Nat → Nat} {c gn G pb gt : Nat} {b7 b8 : Option Nat} {W : World}

theorem Gvn.pos (h : Gvn w s n j bk v xs ys) : 1 ≤ n ∧ n ≤ 128 := by
  have h1 := h.hj
  rw [h.hn]
  exact ⟨Nat.two_pow_pos j, Nat.pow_le_pow_right (by decide) (by omega : j ≤ 7)⟩

theorem Sx.lt (h : Sx w s n j bk v xs ys c gn G pb gt b7 b8 W) : s < W.heap.size := World.block_lt_of_cell? W _ h.bx

/-- More memory, nothing else. -/
theorem Sx.below {W' : World} (h : Sx w s n j bk v xs ys c gn G pb gt b7 b8 W) (hb : Below W.heap.size W W') : Sx w s n j bk v xs ys c gn G pb gt b7 b8 W' :=
  ⟨h.gv, h.bel.trans (hb.mono (Nat.le_of_lt h.lt)), keepc hb h.bx, fun hc => (h.c1 hc).below hb, fun hc => ⟨(h.c2 hc).1.below hb, keepc hb (h.c2 hc).2.1, (h.c2 hc).2.2⟩, fun hc => (h.c3 hc).below hb,
   fun b e => ⟨keepc hb (h.d7 b e).1, keepf hb (h.d7 b e).1 (h.d7 b e).2.1, (h.d7 b e).2.2⟩, fun b e => ⟨keepc hb (h.d8 b e).1, keepf hb (h.d8 b e).1 (h.d8 b e).2.1, (h.d8 b e).2.2⟩, h.ne⟩

theorem Sx.drew (h : Sx w s n j bk v xs ys c gn G pb gt b7 b8 W) : Sx w s n j bk v xs ys c gn G pb gt b7 b8 W.drew := h.below (Below.refl _ _).drew

theorem Sx.a7 (h : Sx w s n j bk v xs ys c gn G pb gt none b8 W) : Sx w s n j bk v xs ys c gn G pb gt (some W.heap.size) b8 (W.alloc (.cells #[.slice none 0 0] 50)) := by
  have hb := below_one W (.cells #[.slice none 0 0] 50)
  have k := h.below hb
  refine ⟨k.gv, k.bel, k.bx, k.c1, k.c2, k.c3, fun b e => ?_, k.d8, fun b b' e e' => ?_⟩
  · obtain rfl := Option.some.inj e
    exact ⟨by simp, by simp, Nat.le_of_lt h.lt⟩
  · obtain rfl := Option.some.inj e
    have := World.block_lt_of_cell? W _ (h.d8 b' e').1
    exact fun h => by simp at this; omega

theorem Sx.a8 (h : Sx w s n j bk v xs ys c gn G pb gt b7 none W) : Sx w s n j bk v xs ys c gn G pb gt b7 (some W.heap.size) (W.alloc (.cells #[.slice none 0 0] 50)) := by
  have hb := below_one W (.cells #[.slice none 0 0] 50)
  have k := h.below hb
  refine ⟨k.gv, k.bel, k.bx, k.c1, k.c2, k.c3, k.d7, fun b e => ?_, fun b b' e e' => ?_⟩
  · obtain rfl := Option.some.inj e
    exact ⟨by simp, by simp, Nat.le_of_lt h.lt⟩
  · obtain rfl := Option.some.inj e'
    have := World.block_lt_of_cell? W _ (h.d7 b e).1
    exact fun h => by simp at this; omega

theorem Sx.k1 (h : Sx w s n j bk v xs ys 0 gn G pb gt b7 b8 W) : Calls Tryz.prog 20 #[v] W fun e w' => ∃ gn, e = .returned (zv gn n) ∧ Sx w s n j bk v xs ys 1 gn G pb gt b7 b8 w' := by
  have hp := h.gv.pos
  have hB : Below w.heap.size w W := h.gv.hs ▸ h.bel
  refine (toCs_any (h.gv.fp.below hB) (by omega)).mono ?_
  rintro e w' ⟨rfl, hz, hb⟩
  have k := h.below hb
  exact ⟨_, rfl, k.gv, k.bel, k.bx, fun _ => hz, fun h => by omega, fun h => by omega, k.d7, k.d8, k.ne⟩

theorem Sx.k2 (h : Sx w s n j bk v xs ys 1 gn G pb gt b7 b8 W) : Calls Tryz.prog 17 #[.bool bk] W fun e w' => ∃ G pb, e = .returned (.func (.func 35) #[] #[.pointer (some ⟨G, 0, none⟩), .pointer (some ⟨pb, 0, none⟩)]) ∧ Sx w s n j bk v xs ys 2 gn G pb gt b7 b8 w' := by
  refine (new_any bk W).mono ?_
  rintro e w' ⟨rfl, h1, h2, h3, hb⟩
  have k := h.below hb
  have hl := h.lt
  exact ⟨_, _, rfl, k.gv, k.bel, k.bx, fun _ => k.c1 (by omega), fun _ => ⟨h1, h2, by omega⟩, fun h => by omega, k.d7, k.d8, k.ne⟩

theorem Sx.k3 (h : Sx w s n j bk v xs ys 2 gn G pb gt b7 b8 W) : Calls Tryz.prog 35 #[.int .i64 n, .pointer (some ⟨G, 0, none⟩), .pointer (some ⟨pb, 0, none⟩)] W fun e w' => ∃ gt, e = .returned (zv gt n) ∧ Sx w s n j bk v xs ys 3 gn G pb gt b7 b8 w' := by
  have hp := h.gv.pos
  have hB : Below w.heap.size w W := h.gv.hs ▸ h.bel
  obtain ⟨hw, hpb, hsG⟩ := h.c2 rfl
  have hG0 : ∃ k x, W.cell? ⟨G, 0, none⟩ = some (.int k x) := by
    obtain ⟨_, h⟩ := hw.2 0 (by omega)
    rcases h with ⟨h, _⟩ | ⟨h, _⟩
    · exact ⟨_, _, h⟩
    · exact ⟨_, _, h⟩
  obtain ⟨kk, xx, hG0⟩ := hG0
  have n1 : pb ≠ G := fun e => by rw [e, hG0] at hpb; cases hpb
  have hz := h.c1 (by omega)
  have n2 : gn ≠ G := fun e => by have := hz.2 0 (by omega); rw [e, hG0] at this; cases this
  have n7 : ∀ b, b7 = some b → b ≠ G := fun b e he => by have := (h.d7 b e).1; rw [he, hG0] at this; cases this
  have n8 : ∀ b, b8 = some b → b ≠ G := fun b e he => by have := (h.d8 b e).1; rw [he, hG0] at this; cases this
  refine (for_any h.gv.hj h.gv.hn bk W G ⟨pb, 0, none⟩ hw (h.gv.br.below hB) hpb (World.block_lt_of_cell? W _ hpb) n1).mono ?_
  rintro e w' ⟨v, g, rfl, ht, hg, _, hk⟩
  obtain rfl := ht.1
  exact ⟨g, rfl, h.gv, Kp.after h.bel (Nat.le_of_lt h.lt) (by omega) hk, (hk.cell (p := ⟨s, 0, none⟩) h.lt (by simp; omega)).trans h.bx, fun _ => hz.kp n2 hk, fun h => by omega, fun _ => ht,
    fun b e => ⟨(hk.cell (p := ⟨b, 0, none⟩) (World.block_lt_of_cell? W _ (h.d7 b e).1) (n7 b e)).trans (h.d7 b e).1, (hk.frozen (p := ⟨b, 0, none⟩) (World.block_lt_of_cell? W _ (h.d7 b e).1) (n7 b e)).trans (h.d7 b e).2.1, (h.d7 b e).2.2⟩,
    fun b e => ⟨(hk.cell (p := ⟨b, 0, none⟩) (World.block_lt_of_cell? W _ (h.d8 b e).1) (n8 b e)).trans (h.d8 b e).1, (hk.frozen (p := ⟨b, 0, none⟩) (World.block_lt_of_cell? W _ (h.d8 b e).1) (n8 b e)).trans (h.d8 b e).2.1, (h.d8 b e).2.2⟩, h.ne⟩

/-- What stands when all is made. -/
structure Sy (w : World) (s n j : Nat) (bk : Bool) (v : Value) (xs ys : Nat → Nat) (gn gt b7 b8 : Nat) (W : World) : Prop where
  gv : Gvn w s n j bk v xs ys
  bel : Below s w W
  bx : W.cell? ⟨s, 0, none⟩ = some (.int .i64 n)
  z : Zr W gn n xs ys
  t : Trn W (zv gt n) n bk gt
  b7 : W.cell? ⟨b7, 0, none⟩ = some (zv gn n)
  b8 : W.cell? ⟨b8, 0, none⟩ = some (zv gt n)

theorem Sy.below {W' : World} {b7 b8 : Nat} (h : Sy w s n j bk v xs ys gn gt b7 b8 W) (hb : Below W.heap.size W W') : Sy w s n j bk v xs ys gn gt b7 b8 W' :=
  ⟨h.gv, h.bel.trans (hb.mono (Nat.le_of_lt (World.block_lt_of_cell? W _ h.bx))), keepc hb h.bx, h.z.below hb, h.t.below hb, keepc hb h.b7, keepc hb h.b8⟩

theorem Sx.stored {b7 b8 : Nat} (h : Sx w s n j bk v xs ys 3 gn G pb gt (some b7) (some b8) W) :
    Sy w s n j bk v xs ys gn gt b7 b8 ((W.setCell ⟨b7, 0, none⟩ (zv gn n)).setCell ⟨b8, 0, none⟩ (zv gt n)) ∧ (W.setCell ⟨b7, 0, none⟩ (zv gn n)).cell? ⟨b8, 0, none⟩ = some (.slice none 0 0) ∧ (W.setCell ⟨b7, 0, none⟩ (zv gn n)).frozen? ⟨b8, 0, none⟩ = false ∧ (W.setCell ⟨b7, 0, none⟩ (zv gn n)).cell? ⟨s, 0, none⟩ = some (.int .i64 n) := by
  have hp := h.gv.pos
  have hz := h.c1 (by omega)
  have ht := h.c3 rfl
  obtain ⟨e7, f7, l7⟩ := h.d7 _ rfl
  obtain ⟨e8, f8, l8⟩ := h.d8 _ rfl
  have n1 : b7 ≠ b8 := h.ne _ _ rfl rfl
  have n2 : b7 ≠ s := fun e => by have := h.bx; rw [← e, e7] at this; cases this
  have n3 : b8 ≠ s := fun e => by have := h.bx; rw [← e, e8] at this; cases this
  have n4 : b7 ≠ gn := fun e => by have := hz.2 0 (by omega); rw [← e, e7] at this; cases this
  have n5 : b8 ≠ gn := fun e => by have := hz.2 0 (by omega); rw [← e, e8] at this; cases this
  obtain ⟨t0, t1, X, Y, t2⟩ := ht
  have n6 : b7 ≠ gt := fun e => by have := (t2 0 (by omega)).1; rw [← e, e7] at this; cases this
  have n7 : b8 ≠ gt := fun e => by have := (t2 0 (by omega)).1; rw [← e, e8] at this; cases this
  have o : ∀ (p : Addr) (X : World) (u : Value) (g : Nat), p.block ≠ g → (X.setCell ⟨g, 0, none⟩ u).cell? p = X.cell? p := fun p X u g hg => World.cell?_setCell_other _ _ _ _ (fun h => hg (by rw [← h]))
  refine ⟨⟨h.gv, (h.bel.setCell l7 _).setCell l8 _, ?_, ⟨by simpa using hz.1, fun k hk => ?_⟩, ⟨t0, by simpa using t1, X, Y, fun k hk => ⟨?_, (t2 k hk).2⟩⟩, ?_, ?_⟩, ?_, by simpa using f8, ?_⟩
  · rw [o _ _ _ _ (Ne.symm n3), o _ _ _ _ (Ne.symm n2)]; exact h.bx
  · rw [o _ _ _ _ (Ne.symm n5), o _ _ _ _ (Ne.symm n4)]; exact hz.2 k hk
  · rw [o _ _ _ _ (Ne.symm n7), o _ _ _ _ (Ne.symm n6)]; exact (t2 k hk).1
  · rw [o _ _ _ _ n1]; exact World.cell?_setCell_same _ _ _ e7
  · exact World.cell?_setCell_same (u := .slice none 0 0) _ _ _ ((o ⟨b8, 0, none⟩ _ _ _ (Ne.symm n1)).trans e8)
  · exact (o ⟨b8, 0, none⟩ _ _ _ (Ne.symm n1)).trans e8
  · exact (o ⟨s, 0, none⟩ _ _ _ (Ne.symm n2)).trans h.bx
end Go.Proofs.YtddbekacdfohpaaGreatDoor



namespace Go.Proofs.YtddbekacdfohpaaGreatDoor
open Go.RowKit

/-- A sum as it grows. -/
def fpart (xs ys : Nat → Nat) (n : Nat) (bk : Bool) (k : Nat) : Nat → Option Nat × Option Nat
  | 0 => (cn 0, cn 0)
  | i + 1 => (cop .add (fpart xs ys n bk k i).1 (cre (cn (xs i)) (cn (ys i)) (tre (((i * k : Nat) : Int) * strd n bk)) (tim (((i * k : Nat) : Int) * strd n bk))), cop .add (fpart xs ys n bk k i).2 (cim (cn (xs i)) (cn (ys i)) (tre (((i * k : Nat) : Int) * strd n bk)) (tim (((i * k : Nat) : Int) * strd n bk))))

/-- Divided, on the way back. -/
def fby (n : Nat) (bk : Bool) (p : Option Nat × Option Nat) : Option Nat × Option Nat := if bk then (cop .quo p.1 (cn (fk n)), cop .quo p.2 (cn (fk n))) else p

/-- The transform. -/
def four (xs ys : Nat → Nat) (n : Nat) (bk : Bool) (k : Nat) : Option Nat × Option Nat := fby n bk (fpart xs ys n bk k n)

/-- What a transform answers. -/
def Pf (w w' : World) (e : Ending) (N : Nat) (C : Nat → Option Nat × Option Nat) (ok : Bool) : Prop := ∃ u X Y L, e = .returned (.tuple #[u, .bool ok]) ∧ Fp w' u N X Y ∧ (∀ k, k < N → (cn (X k), cn (Y k)) = C k) ∧ w'.ownsRow w.heap.size 39 2 u N L ∧ Below w.heap.size w w'

theorem strd_n {n : Nat} (h : n = 1 ∨ n = 2 ∨ n = 4 ∨ n = 8 ∨ n = 16 ∨ n = 32 ∨ n = 64 ∨ n = 128) (bk : Bool) : ((n : Int) * strd n bk) % 256 = 0 := by
  rcases h with rfl | rfl | rfl | rfl | rfl | rfl | rfl | rfl <;> cases bk <;> decide

theorem turn_congr {n : Nat} (h : n = 1 ∨ n = 2 ∨ n = 4 ∨ n = 8 ∨ n = 16 ∨ n = 32 ∨ n = 64 ∨ n = 128) (bk : Bool) (m : Nat) : (((m % n : Nat) : Int) * strd n bk) % 256 = ((m : Int) * strd n bk) % 256 := by
  have h1 := strd_n h bk
  have h2 : (m : Int) = (n : Int) * ((m / n : Nat) : Int) + ((m % n : Nat) : Int) := by exact_mod_cast (Nat.div_add_mod m n).symm
  generalize strd n bk = t at *
  rw [h2, Int.add_mul, show (n : Int) * ((m / n : Nat) : Int) * t = ((n : Int) * t) * ((m / n : Nat) : Int) by rw [Int.mul_assoc, Int.mul_comm ((m / n : Nat) : Int) t, ← Int.mul_assoc]]
  have h3 : ((n : Int) * t * ((m / n : Nat) : Int)) % 256 = 0 := by rw [Int.mul_emod, h1, Int.zero_mul]; rfl
  rw [Int.add_emod, h3, Int.zero_add, Int.emod_emod_of_dvd _ (Int.dvd_refl _)]

end Go.Proofs.YtddbekacdfohpaaGreatDoor

namespace Go.Proofs.YtddbekacdfohpaaGreatDoor
open Go.RowKit

set_option maxRecDepth 100000 in
set_option maxHeartbeats 1000000 in
theorem sTurn_any (s : Int) (w : World) : Calls Tryz.prog 61 #[.int .i64 s] w fun e w' => ∃ x y, e = .returned (Pv x y) ∧ cn x = tre s ∧ cn y = tim s ∧ Below w.heap.size w w' := by
  have i1 := Wv.sCos_any s
  have i2 := Wv.sSin_any s
  have hQ := rQuo
  have hfc := fwor_cell
  have hff := fwor_frozen
  have hST := rStore
  have T1 : Hid (tre s = cop .quo (cn (fk (Wv.cosv s))) (cn 4742290407621132288)) := rfl
  have T2 : Hid (tim s = cop .quo (cn (fk (Wv.sinv s))) (cn 4742290407621132288)) := rfl
  have b1 := Wv.cosv_bounds s
  have b2 := Wv.sinv_bounds s
  generalize Wv.cosv s = c at *
  generalize Wv.sinv s = q at *
  have r0 := Rb.new w 0 0 39 (g := w.heap.size) rfl
  have R0 : Hid (Rb (w.alloc (.cells #[.float .f64 0, .float .f64 0] 39)) w.heap.size 0 0) := r0
  clear r0
  go_enter Tryz.func61, Tryz.ntmps61
  go_wp2_with (first | (go_at_call 76; (with_reducible refine (i1 _).mono ?_); rintro e w1 ⟨rfl, hb1⟩; have B1 : Hid (Below w.heap.size w w1) := bstep (below_one _ _) hb1; have R1 : Hid (Rb (fwor .quo w1 (fk c) 4742290407621132288) w.heap.size 0 0) := (R0.out.call hb1).fwor _ _ _; clear hb1) | (go_at_call 77; (with_reducible refine (i2 _).mono ?_); rintro e w2 ⟨rfl, hb2⟩; have B2 : Hid (Below w.heap.size w w2) := bstep (below_fwor B1.out _ _ _) hb2; have R2 : Hid (Rb (fwor .quo w2 (fk q) 4742290407621132288) w.heap.size 0 0) := (R1.out.call hb2).fwor _ _ _; obtain ⟨d0, d1, z0, z1⟩ := R1.out.call hb2; clear hb2))
  refine bodyPost_ret (v := Pv _ _) (by simp [results, Tryz.results61, fwor_cell, go_sem, d0, d1]; exact ⟨rfl, rfl⟩) rfl ⟨_, _, rfl, by rw [cn_fres, T1.out], by rw [cn_fres, T2.out], ?_⟩
  exact ((below_fwor B2.out _ _ _).setCell (Nat.le_refl _) _).setCell (Nat.le_refl _) _

/-- The sign of a turn. -/
def sgn (bk : Bool) : Int := if bk then 1 else -1

theorem sSgn_any (bk : Bool) (w : World) : Calls Tryz.prog 47 #[.bool bk] w fun e w' => e = .returned (.int .i64 (sgn bk)) ∧ w' = w := by
  cases bk
  · go_enter Tryz.func47, Tryz.ntmps47
    go_wp2
    go_ret
    exact ⟨rfl, rfl⟩
  · go_enter Tryz.func47, Tryz.ntmps47
    go_wp2
    go_ret
    exact ⟨rfl, rfl⟩

theorem sBy_no (v : Value) (w : World) : Calls Tryz.prog 45 #[v, .bool false] w fun e w' => e = .returned v ∧ w' = w := by
  have hnot : ∀ (x : Bool) (w : World), (Op.unary .not (.bool x)).run Tryz.prog w = .ok (.bool (!x)) w := fun _ _ => rfl
  go_enter Tryz.func45, Tryz.ntmps45
  go_wp2
  go_ret
  exact ⟨rfl, rfl⟩

set_option maxRecDepth 100000 in
set_option maxHeartbeats 4000000 in
theorem sBy_any {w : World} {v : Value} {n : Nat} {xs ys : Nat → Nat} (hv : Fp w v n xs ys) (hn : n ≤ 1048576) : Calls Tryz.prog 45 #[v, .bool true] w fun e w' => ∃ u X Y, e = .returned u ∧ Fp w' u n X Y ∧ (∀ i, i < n → cn (X i) = cop .quo (cn (xs i)) (cn (fk n)) ∧ cn (Y i) = cop .quo (cn (ys i)) (cn (fk n))) ∧ Below w.heap.size w w' := by
  obtain ⟨i0, hi, hz0, hz1, hz2⟩ := info_parts Tryz.info39
  obtain ⟨ao, cap, rfl, hcap, hc⟩ := hv
  have HC : Hid (0 < n → ∃ b off, ao = some ⟨b, off, none⟩ ∧ b < w.heap.size ∧ ∀ k, k < n → w.cell? ⟨b, off + k * 2, none⟩ = some (.float .f64 (xs k)) ∧ w.cell? ⟨b, off + k * 2 + 1, none⟩ = some (.float .f64 (ys k))) := hc
  clear hc
  have hST := rStore
  have hQ := rQuo
  have hnot : ∀ (x : Bool) (w : World), (Op.unary .not (.bool x)).run Tryz.prog w = .ok (.bool (!x)) w := fun _ _ => rfl
  have h0 : Hid ((w.alloc (.cells #[] 39)).ownsRow w.heap.size 39 2 (.slice (some ⟨w.heap.size, 0, none⟩) 0 0) 0 []) := own_empty w 39 2
  go_enter Tryz.func45, Tryz.ntmps45
  go_wp2
  go_loopw [6, 7] (fun o i wr => ∃ k : Nat, i = .int .i64 k ∧ k ≤ n ∧ Hid ((∃ PX PY, wr.ownsRow w.heap.size 39 2 o k (cl2 PX PY k) ∧ ∀ j, j < k → cn (PX j) = cop .quo (cn (xs j)) (cn (fk n)) ∧ cn (PY j) = cop .quo (cn (ys j)) (cn (fk n))) ∧ Below w.heap.size w wr)) (fun _ i _ => n - (intOf i).toNat)
  case atStart => exact ⟨0, rfl, by omega, ⟨fun _ => 0, fun _ => 0, h0.out, fun j hj => by omega⟩, below_one _ _⟩
  case round =>
    obtain ⟨k, rfl, hk, hrel⟩ := hrel
    obtain ⟨PX, PY, how, hpx⟩ := hrel.out.1
    have HPX : Hid (∀ j, j < k → cn (PX j) = cop .quo (cn (xs j)) (cn (fk n)) ∧ cn (PY j) = cop .quo (cn (ys j)) (cn (fk n))) := hpx
    have HBL : Hid (Below w.heap.size w wr) := hrel.out.2
    by_cases h1 : k < n
    · obtain ⟨b, off, rfl, hlt, hcell⟩ := HC.out (by omega)
      have own0 := own_below how (Below.refl _ wr).drew
      have hs : w.heap.size ≤ wr.heap.size := HBL.out.size
      have ra : ∀ X, Below w.heap.size wr X → X.cell? ⟨b, off + k * 2, none⟩ = some (.float .f64 (xs k)) ∧ X.cell? ⟨b, off + k * 2 + 1, none⟩ = some (.float .f64 (ys k)) := fun X hX => ⟨((HBL.out.trans hX).cell (p := ⟨b, off + k * 2, none⟩) hlt).trans (hcell k h1).1, ((HBL.out.trans hX).cell (p := ⟨b, off + k * 2 + 1, none⟩) hlt).trans (hcell k h1).2⟩
      have l0 : Below w.heap.size wr wr.drew := (Below.refl _ _).drew
      clear hrel how hpx hcell
      go_wp2
      refine wp_region_any (by kernel_rfl) ?_
      change wpAny _ _ _ _ _ _ _ (World.drew _)
      refine wpI_any (I := fun X => Below w.heap.size wr X) _ _ _ _ ?_
      refine wpI_take (i := 0) (v := ?_) rfl (by kernel_rfl) (by kernel_rfl) (by kernel_rfl) (fun _ _ _ h => h) ⟨by rfl, ?_⟩ ?_
      rotate_left
      · intro X hI; go_simp; try go_bits
        try rw [if_pos (by omega)]
        try with_reducible rfl
      refine wpI_take (i := 1) (v := ?_) rfl (by kernel_rfl) (by kernel_rfl) (by kernel_rfl) (fun _ _ _ h => h) ⟨by rfl, ?_⟩ ?_
      rotate_left
      · intro X hI; go_simp; try go_bits
        try rw [if_pos (by omega)]
        try with_reducible rfl
      refine wpI_take (i := 2) (v := ?_) rfl (by kernel_rfl) (by kernel_rfl) (by kernel_rfl) (fun _ _ _ h => h) ⟨by rfl, ?_⟩ ?_
      rotate_left
      · intro X hI; go_simp; try go_bits
        try rw [if_pos (by omega)]
        try with_reducible rfl
      refine wpI_take (i := 3) (v := ?_) rfl (by kernel_rfl) (by kernel_rfl) (by kernel_rfl) (fun _ _ _ h => h) ⟨by rfl, ?_⟩ ?_
      rotate_left
      · intro X hI; go_simp; try go_bits
        try rw [if_pos (by omega)]
        try with_reducible rfl
      refine wpI_take (i := 4) (v := ?_) rfl (by kernel_rfl) (by kernel_rfl) (by kernel_rfl) (fun _ _ _ h => h) ⟨by rfl, ?_⟩ ?_
      rotate_left
      · intro X hI; go_simp; try go_bits
        try rw [if_pos (by omega)]
        try with_reducible rfl
      refine wpI_take (i := 5) (v := ?_) rfl (by kernel_rfl) (by kernel_rfl) (by kernel_rfl) (fun _ _ _ h => h) ⟨by rfl, ?_⟩ ?_
      rotate_left
      · intro X hI; obtain ⟨c, c'⟩ := ra X hI; go_simp; try go_bits
        try rw [if_pos (by omega)]
        try with_reducible rfl
      refine wpI_take (i := 6) (v := ?_) rfl (by kernel_rfl) (by kernel_rfl) (by kernel_rfl) (fun _ _ _ h => h) ⟨by rfl, ?_⟩ ?_
      rotate_left
      · intro X hI; go_simp; try go_bits
        try rw [if_pos (by omega)]
        try with_reducible rfl
      refine wpI_take (i := 8) (v := ?_) rfl (by kernel_rfl) (by kernel_rfl) (by kernel_rfl) (fun _ _ _ h => h) ⟨by rfl, ?_⟩ ?_
      rotate_left
      · intro X hI; go_simp; try go_bits
        try rw [if_pos (by omega)]
        try with_reducible rfl
      refine wpI_take (i := 9) (v := ?_) rfl (by kernel_rfl) (by kernel_rfl) (by kernel_rfl) (fun _ _ _ h => h) ⟨by rfl, ?_⟩ ?_
      rotate_left
      · intro X hI; go_simp; try go_bits
        try rw [if_pos (by omega)]
        try with_reducible rfl
      refine wpI_take (i := 10) (v := ?_) rfl (by kernel_rfl) (by kernel_rfl) (by kernel_rfl) (fun _ _ _ h => h) ⟨by rfl, ?_⟩ ?_
      rotate_left
      · intro X hI; go_simp; try go_bits
        try rw [if_pos (by omega)]
        try with_reducible rfl
      refine wpI_take (i := 11) (v := ?_) rfl (by kernel_rfl) (by kernel_rfl) (by kernel_rfl) (fun _ _ _ h => h) ⟨by rfl, ?_⟩ ?_
      rotate_left
      · intro X hI; go_simp; try go_bits
        try rw [if_pos (by omega)]
        try with_reducible rfl
      refine wpI_take (i := 12) (v := ?_) rfl (by kernel_rfl) (by kernel_rfl) (by kernel_rfl) (fun _ _ _ h => h) ⟨by rfl, ?_⟩ ?_
      rotate_left
      · intro X hI; obtain ⟨c, c'⟩ := ra X hI; go_simp; try go_bits
        try rw [if_pos (by omega)]
        try with_reducible rfl
      refine wpI_take (i := 13) (v := ?_) rfl (by kernel_rfl) (by kernel_rfl) (by kernel_rfl) (fun _ _ _ h => h) ⟨by rfl, ?_⟩ ?_
      rotate_left
      · intro X hI; go_simp; try go_bits
        try rw [if_pos (by omega)]
        try with_reducible rfl
      generalize wr.drew = W0 at l0 own0 ⊢
      refine wpI_two (i := 7) (j := 14) rfl rfl (by kernel_rfl) l0 (by rfl) (by rfl) ?_ ?_
      · intro K hK
        have l1 : Below w.heap.size wr (fwor .quo W0 (xs k) (fk n)) := below_fwor l0 _ _ _
        have own1 := own_below own0 (below_fwor (Below.refl _ W0) .quo (xs k) (fk n))
        have e1 := cn_fres .quo W0 (xs k) (fk n)
        go_simp
        refine hK _ _ ?_
        clear hK K
        generalize fres .quo W0 (xs k) (fk n) = za at e1 ⊢
        generalize fwor .quo W0 (xs k) (fk n) = W1 at l1 own1 ⊢
        refine wpI_only (i := 14) rfl (by kernel_rfl) l1 (by rfl) ?_
        intro K hK
        have l2 : Below w.heap.size wr (fwor .quo W1 (ys k) (fk n)) := below_fwor l1 _ _ _
        have own2 := own_below own1 (below_fwor (Below.refl _ W1) .quo (ys k) (fk n))
        have e2 := cn_fres .quo W1 (ys k) (fk n)
        go_simp
        refine hK _ _ ?_
        clear hK K
        generalize fres .quo W1 (ys k) (fk n) = zb at e2 ⊢
        generalize fwor .quo W1 (ys k) (fk n) = W2 at l2 own2 ⊢
        refine wpI_only (i := 15) rfl (by kernel_rfl) l2 (by rfl) ?_
        intro K hK
        go_simp
        refine hK _ _ ?_
        clear hK K
        have l4 := l2.alloc (Nat.le_trans hs l2.size) (.cells #[.float .f64 za, .float .f64 zb] 39)
        have own4 := own_below own2 (below_one _ (.cells #[.float .f64 za, .float .f64 zb] 39))
        refine wpI_only (i := 16) rfl (by kernel_rfl) l2 (by rfl) ?_
        intro K hK
        go_simp
        refine hK _ _ ?_
        clear hK K
        refine wpI_only (i := 17) rfl (by kernel_rfl) l4 (by rfl) ?_
        intro K hK
        refine wp_append_own _ _ _ 24 rfl w.heap.size 39 i0 (.agg #[.float .f64 0, .float .f64 0]) 2 16 Tryz.underlying24 hi hz0 hz1 hz2 rfl (by decide) _ _ _ rfl own4 ⟨W2.heap.size, 0, none⟩ 1 1 [.float .f64 za, .float .f64 zb] rfl rfl (two_new _ _ _ _) (by simp [Value.oneCell']) (by unfold maxLen; omega) (by omega) (Nat.le_trans hs l4.size) ?_
        intro v' w5 hown' hgrow _
        have l5 := l4.grown hgrow (Nat.le_trans hs l4.size) (fun z hz => (World.ownsRow.lt own4 z hz).1)
        refine hK _ _ ?_
        clear hK K
        refine wpI_only (i := 18) rfl (by kernel_rfl) l5 (by rfl) ?_
        intro K hK
        go_simp
        refine hK _ _ ?_
        clear hK K
        refine wpI_done l5 (by kernel_rfl) ?_ _
        rw [cl2_snoc] at hown'
        have HO5 : Hid (w5.ownsRow w.heap.size 39 2 v' (k + 1) (cl2 (fun i => if i = k then za else PX i) (fun i => if i = k then zb else PY i) (k + 1))) := hown'
        have HB5 : Hid (Below w.heap.size w w5) := HBL.out.trans l5
        have E1 : Hid (cn za = cop .quo (cn (xs k)) (cn (fk n)) ∧ cn zb = cop .quo (cn (ys k)) (cn (fk n))) := ⟨e1, e2⟩
        clear hown' hgrow own4 own2 l5 l4 l2
        go_wp2
        go_roundw
        case rel =>
          refine ⟨k + 1, by go_num, by omega, ⟨_, _, HO5.out, fun j hj => ?_⟩, HB5.out⟩
          by_cases hjq : j = k
          · subst hjq
            simp only [if_pos]
            exact E1.out
          · simp only [if_neg hjq]
            exact HPX.out j (by omega)
        case measure => simp [intOf]; omega
      · intro K hK
        have l1 : Below w.heap.size wr (fwor .quo W0 (ys k) (fk n)) := below_fwor l0 _ _ _
        have own1 := own_below own0 (below_fwor (Below.refl _ W0) .quo (ys k) (fk n))
        have e2 := cn_fres .quo W0 (ys k) (fk n)
        go_simp
        refine hK _ _ ?_
        clear hK K
        generalize fres .quo W0 (ys k) (fk n) = zb at e2 ⊢
        generalize fwor .quo W0 (ys k) (fk n) = W1 at l1 own1 ⊢
        refine wpI_only (i := 7) rfl (by kernel_rfl) l1 (by rfl) ?_
        intro K hK
        have l2 : Below w.heap.size wr (fwor .quo W1 (xs k) (fk n)) := below_fwor l1 _ _ _
        have own2 := own_below own1 (below_fwor (Below.refl _ W1) .quo (xs k) (fk n))
        have e1 := cn_fres .quo W1 (xs k) (fk n)
        go_simp
        refine hK _ _ ?_
        clear hK K
        generalize fres .quo W1 (xs k) (fk n) = za at e1 ⊢
        generalize fwor .quo W1 (xs k) (fk n) = W2 at l2 own2 ⊢
        refine wpI_only (i := 15) rfl (by kernel_rfl) l2 (by rfl) ?_
        intro K hK
        go_simp
        refine hK _ _ ?_
        clear hK K
        have l4 := l2.alloc (Nat.le_trans hs l2.size) (.cells #[.float .f64 za, .float .f64 zb] 39)
        have own4 := own_below own2 (below_one _ (.cells #[.float .f64 za, .float .f64 zb] 39))
        refine wpI_only (i := 16) rfl (by kernel_rfl) l2 (by rfl) ?_
        intro K hK
        go_simp
        refine hK _ _ ?_
        clear hK K
        refine wpI_only (i := 17) rfl (by kernel_rfl) l4 (by rfl) ?_
        intro K hK
        refine wp_append_own _ _ _ 24 rfl w.heap.size 39 i0 (.agg #[.float .f64 0, .float .f64 0]) 2 16 Tryz.underlying24 hi hz0 hz1 hz2 rfl (by decide) _ _ _ rfl own4 ⟨W2.heap.size, 0, none⟩ 1 1 [.float .f64 za, .float .f64 zb] rfl rfl (two_new _ _ _ _) (by simp [Value.oneCell']) (by unfold maxLen; omega) (by omega) (Nat.le_trans hs l4.size) ?_
        intro v' w5 hown' hgrow _
        have l5 := l4.grown hgrow (Nat.le_trans hs l4.size) (fun z hz => (World.ownsRow.lt own4 z hz).1)
        refine hK _ _ ?_
        clear hK K
        refine wpI_only (i := 18) rfl (by kernel_rfl) l5 (by rfl) ?_
        intro K hK
        go_simp
        refine hK _ _ ?_
        clear hK K
        refine wpI_done l5 (by kernel_rfl) ?_ _
        rw [cl2_snoc] at hown'
        have HO5 : Hid (w5.ownsRow w.heap.size 39 2 v' (k + 1) (cl2 (fun i => if i = k then za else PX i) (fun i => if i = k then zb else PY i) (k + 1))) := hown'
        have HB5 : Hid (Below w.heap.size w w5) := HBL.out.trans l5
        have E1 : Hid (cn za = cop .quo (cn (xs k)) (cn (fk n)) ∧ cn zb = cop .quo (cn (ys k)) (cn (fk n))) := ⟨e1, e2⟩
        clear hown' hgrow own4 own2 l5 l4 l2
        go_wp2
        go_roundw
        case rel =>
          refine ⟨k + 1, by go_num, by omega, ⟨_, _, HO5.out, fun j hj => ?_⟩, HB5.out⟩
          by_cases hjq : j = k
          · subst hjq
            simp only [if_pos]
            exact E1.out
          · simp only [if_neg hjq]
            exact HPX.out j (by omega)
        case measure => simp [intOf]; omega
    · obtain rfl : n = k := by omega
      have HF : Hid (Fp wr _ n PX PY) := fp_of_own how
      clear hrel how hpx
      obtain ⟨oa, oc, rfl, _⟩ := HF.out
      go_wp2
      go_ret
      exact ⟨_, PX, PY, rfl, HF.out, HPX.out, HBL.out⟩
end Go.Proofs.YtddbekacdfohpaaGreatDoor

namespace Go.Proofs.YtddbekacdfohpaaGreatDoor
open Go.RowKit

theorem turn_of {n : Nat} (q k : Nat) (bk : Bool) : sgn bk * (q : Int) * (k : Int) * (256 / (n : Int)) = ((q * k : Nat) : Int) * strd n bk := by
  unfold sgn strd
  push_cast
  generalize (256 : Int) / (n : Int) = d
  cases bk
  · simp only [Bool.false_eq_true, if_false]
    rw [Int.neg_mul, Int.neg_mul, Int.neg_mul, Int.one_mul, Int.mul_neg]
  · simp only [if_true]
    rw [Int.one_mul]

theorem tdiv_256 {n : Nat} : (256 : Int).tdiv (n : Int) = 256 / (n : Int) := Int.tdiv_eq_ediv_of_nonneg (by decide)

theorem sgn_mul (bk : Bool) (q : Nat) (hq : q ≤ 128) : -128 ≤ sgn bk * (q : Int) ∧ sgn bk * (q : Int) ≤ 128 := by
  unfold sgn
  cases bk
  · simp only [Bool.false_eq_true, if_false]
    omega
  · simp only [if_true]
    omega

theorem mul_in {a b A B : Int} (h1 : -A ≤ a) (h2 : a ≤ A) (h3 : 0 ≤ b) (h4 : b ≤ B) (hA : 0 ≤ A) : -(A * B) ≤ a * b ∧ a * b ≤ A * B := by
  have e : (a * b).natAbs ≤ A.natAbs * B.natAbs := by
    rw [Int.natAbs_mul]
    exact Nat.mul_le_mul (by omega) (by omega)
  have e2 : A * B = ((A.natAbs * B.natAbs : Nat) : Int) := by
    rw [Int.natCast_mul, Int.natAbs_of_nonneg hA, Int.natAbs_of_nonneg (by omega)]
  omega

/-- What the model answers, with no word on whose memory it is. -/
def Pg (w w' : World) (e : Ending) (N : Nat) (C : Nat → Option Nat × Option Nat) (ok : Bool) : Prop := ∃ u X Y, e = .returned (.tuple #[u, .bool ok]) ∧ Fp w' u N X Y ∧ (∀ k, k < N → (cn (X k), cn (Y k)) = C k) ∧ Below w.heap.size w w'

theorem Pf.pg {w w' : World} {e : Ending} {N : Nat} {C : Nat → Option Nat × Option Nat} {ok : Bool} (h : Pf w w' e N C ok) : Pg w w' e N C ok := by
  obtain ⟨u, X, Y, L, h1, h2, h3, h4, h5⟩ := h
  exact ⟨u, X, Y, h1, h2, h3, h5⟩

end Go.Proofs.YtddbekacdfohpaaGreatDoor

namespace Go.Proofs.YtddbekacdfohpaaGreatDoor
open Go.RowKit

end Go.Proofs.YtddbekacdfohpaaGreatDoor

namespace Go.Proofs.YtddbekacdfohpaaGreatDoor
open Go.RowKit

theorem map_cl2 {f : Nat → Value} {X Y : Nat → Nat} {n : Nat} (h : ∀ i, i < n → f (i * 2) = .float .f64 (X i) ∧ f (i * 2 + 1) = .float .f64 (Y i)) : (List.range (n * 2)).map f = cl2 X Y n := by
  apply List.ext_getElem?
  intro i
  by_cases hi : i < n * 2
  · rw [List.getElem?_map, List.getElem?_range hi]
    have hk : i / 2 < n := by omega
    obtain ⟨g1, g2⟩ := cl2_get X Y hk
    obtain ⟨f1, f2⟩ := h (i / 2) hk
    have : i = i / 2 * 2 ∨ i = i / 2 * 2 + 1 := by omega
    rcases this with e | e
    · rw [e, g1, ← f1]
      rfl
    · rw [e, g2, ← f2]
      rfl
  · rw [List.getElem?_eq_none (by simp; omega), List.getElem?_eq_none (by rw [cl2_length]; omega)]

theorem own_cl {w : World} {B n : Nat} {v : Value} {L : List Value} {X Y : Nat → Nat} (h0 : 0 < n) (h : w.ownsRow B 39 2 v n L) (hf : Fp w v n X Y) : w.ownsRow B 39 2 v n (cl2 X Y n) := by
  rcases ow_of_own h with ⟨h1, _⟩ | ⟨g, cap, f, rfl, _, _, ho⟩
  · omega
  · obtain ⟨ao, cap', e, _, hc⟩ := hf
    obtain ⟨b, off, rfl, _, hcell⟩ := hc h0
    simp only [Value.slice.injEq, Option.some.injEq, Addr.mk.injEq] at e
    obtain ⟨⟨rfl, rfl, _⟩, _, rfl⟩ := e
    have hm : ∀ i, i < n → f (i * 2) = .float .f64 (X i) ∧ f (i * 2 + 1) = .float .f64 (Y i) := fun i hi => by
      obtain ⟨c0, c1⟩ := hcell i hi
      have d0 := ho.cell (j := i * 2) (by omega)
      have d1 := ho.cell (j := i * 2 + 1) (by omega)
      rw [Nat.zero_add] at c0 c1
      exact ⟨Option.some.inj (d0.symm.trans c0), Option.some.inj (d1.symm.trans c1)⟩
    rw [← map_cl2 hm]
    exact ho

/-- What the program answers, in memory of its own. -/
def Pe (w w' : World) (e : Ending) (N : Nat) (C : Nat → Option Nat × Option Nat) (ok : Bool) : Prop := ∃ u X Y, e = .returned (.tuple #[u, .bool ok]) ∧ w'.ownsRow w.heap.size 39 2 u N (cl2 X Y N) ∧ (∀ k, k < N → (cn (X k), cn (Y k)) = C k) ∧ Below w.heap.size w w'

theorem Pf.pe {w w' : World} {e : Ending} {N : Nat} {C : Nat → Option Nat × Option Nat} {ok : Bool} (h0 : 0 < N) (h : Pf w w' e N C ok) : Pe w w' e N C ok := by
  obtain ⟨u, X, Y, L, h1, h2, h3, h4, h5⟩ := h
  exact ⟨u, X, Y, h1, own_cl h0 h4 h2, h3, h5⟩

theorem h8_pow {n : Nat} (h : H8 (n : Int)) : ∃ j, j < 8 ∧ n = 2 ^ j := by
  have : n = 1 ∨ n = 2 ∨ n = 4 ∨ n = 8 ∨ n = 16 ∨ n = 32 ∨ n = 64 ∨ n = 128 := by omega
  rcases this with rfl | rfl | rfl | rfl | rfl | rfl | rfl | rfl
  · exact ⟨0, by omega, rfl⟩
  · exact ⟨1, by omega, rfl⟩
  · exact ⟨2, by omega, rfl⟩
  · exact ⟨3, by omega, rfl⟩
  · exact ⟨4, by omega, rfl⟩
  · exact ⟨5, by omega, rfl⟩
  · exact ⟨6, by omega, rfl⟩
  · exact ⟨7, by omega, rfl⟩

end Go.Proofs.YtddbekacdfohpaaGreatDoor
