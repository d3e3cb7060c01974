/- A turned line's step. -/
import Derived.Test.YtimjbpmppigaoaaFJ
import Derived.Deep.RegionWith
import Derived.Deep.Cut
namespace Go.Proofs.Ytimjbpmppigaoaa
open Go.RowKit

/-- A turned line: its taps (only read), its sums in a row of its own. -/
structure Tu (W : World) (B A P n : Nat) (tv : Value) (g : Nat → Int) : Prop where
  c0 : W.cell? ⟨A, 0, none⟩ = some tv
  c1 : W.cell? ⟨A, 1, none⟩ = some (.slice (some ⟨P, 0, none⟩) n n)
  own : W.ownsRow B 3 1 (.slice (some ⟨P, 0, none⟩) n n) n (ils g n)
  ne : A ≠ P

theorem Tu.below {W W' : World} {B A P n : Nat} {tv : Value} {g : Nat → Int} (h : Tu W B A P n tv g) (hb : Below W.heap.size W W') : Tu W' B A P n tv g :=
  ⟨(hb.cell (p := ⟨A, 0, none⟩) (World.block_lt_of_cell? W _ h.c0)).trans h.c0, (hb.cell (p := ⟨A, 1, none⟩) (World.block_lt_of_cell? W _ h.c1)).trans h.c1, own_below h.own hb, h.ne⟩

/-- The first j sums made new. -/
def tsj (f g : Nat → Int) (x : Int) (j i : Nat) : Int := if i < j then g (i + 1) + f (i + 1) * x else g i

theorem tsj_put (f g : Nat → Int) (x : Int) (n j : Nat) : (ils (tsj f g x j) n).set j (.int .i64 (g (j + 1) + f (j + 1) * x)) = ils (tsj f g x (j + 1)) n := by
  rw [ils_put]
  refine ils_congr fun i _ => ?_
  unfold tsj
  by_cases h : i = j
  · subst h; rw [if_pos rfl, if_pos (by omega)]
  · rw [if_neg h]
    by_cases h1 : i < j
    · rw [if_pos h1, if_pos (by omega)]
    · rw [if_neg h1, if_neg (by omega)]

theorem Tu.put {W : World} {B A P n j : Nat} {tv : Value} {f g : Nat → Int} {x y : Int} (h : Tu W B A P n tv (tsj f g x j)) (hy : y = g (j + 1) + f (j + 1) * x) : Tu (W.setCell ⟨P, j, none⟩ (.int .i64 y)) B A P n tv (tsj f g x (j + 1)) := by
  subst hy
  have st := (World.ownsRow.stored h.own j (.int .i64 (g (j + 1) + f (j + 1) * x))).1
  rw [tsj_put] at st
  have eA : (W.setCell ⟨P, j, none⟩ (.int .i64 (g (j + 1) + f (j + 1) * x))).heap[A]? = W.heap[A]? := Below.heap_setCell _ _ _ _ h.ne
  exact ⟨(World.cell?_of_block (w := W) eA).trans h.c0, (World.cell?_of_block (w := W) eA).trans h.c1, st, h.ne⟩

set_option maxRecDepth 20000 in
set_option maxHeartbeats 8000000 in
theorem tStep {w : World} {B A P n tc bt ot : Nat} {f g : Nat → Int} {x : Int} (h : Tu w B A P n (.slice (some ⟨bt, ot, none⟩) n tc) g) (_ : n ≤ tc) (hc : ∀ k, k < n → w.cell? ⟨bt, ot + k, none⟩ = some (.int .i64 (f k))) (hd : bt ≠ P) (hn0 : 1 ≤ n) (hn : n ≤ 64) (hf : Wth 1000000 n f) (hx : -1000000000 ≤ x ∧ x ≤ 1000000000) (hg : Wth 90000000000000000 n g) :
    Calls Try.prog 43 #[.pointer (some ⟨A, 0, none⟩), .int .i64 x] w fun e w' => e = .returned (.int .i64 (g 0 + f 0 * x)) ∧ Tu w' B A P n (.slice (some ⟨bt, ot, none⟩) n tc) (tsj f g x (n - 1)) ∧ Kd (fun k => k = P) w w' := by
  have H : Hid (Tu w B A P n (.slice (some ⟨bt, ot, none⟩) n tc) g) := h
  have HF : Hid (Wth 1000000 n f) := hf
  have HG : Hid (Wth 90000000000000000 n g) := hg
  have HC : Hid (∀ k, k < n → w.cell? ⟨bt, ot + k, none⟩ = some (.int .i64 (f k))) := hc
  have e0 : g 0 + f 0 * x = g 0 + f 0 * x := rfl
  have m0 := mul_bounds (hf 0 (by omega)) hx (by omega) (by omega)
  have b0 := hg 0 (by omega)
  have t0 := hc 0 (by omega)
  rw [Nat.add_zero] at t0
  have p0 := World.ownsRow.cellAt h.own 0 (by omega)
  rw [ils_get (by omega)] at p0
  obtain ⟨c0, c1, _, hne⟩ := h
  have hbt := World.block_lt_of_cell? w _ t0
  clear hf hg hc e0
  generalize ey : f 0 * x = y0 at m0 ⊢
  go_enter Try.func43, Try.ntmps43
  go_upto_region 1 with fail
  go_quiet (fail)
  have H1 : Hid (Tu (w.drewN nq) B A P n (.slice (some ⟨bt, ot, none⟩) n tc) (tsj f g x 0)) := by
    have e : tsj f g x 0 = g := by funext i; simp [tsj]
    show Tu (w.drewN nq) B A P n (.slice (some ⟨bt, ot, none⟩) n tc) (tsj f g x 0)
    rw [e]
    exact H.out.below (drewN_below w nq)
  have K1 : Hid (Kd (fun k => k = P) w (w.drewN nq)) := (Kd.refl _ _).drewN nq
  clear H c0 c1 t0 p0 b0 m0
  generalize w.drewN nq = W at H1 K1 ⊢
  obtain ⟨c0, c1, _, _⟩ := H1.out
  have hn1 : (n : Int) - 1 = ((n - 1 : Nat) : Int) := by omega
  go_wp2
  clear c0 c1
  try rw [hn1]
  obtain ⟨q, hq⟩ : ∃ q, q = n - 1 := ⟨_, rfl⟩
  rw [← hq] at hn1 ⊢
  have hq1 : q + 1 = n := by omega
  clear hq
  go_loopw [6, 28] (fun _ i wr => ∃ j : Nat, i = .int .i64 j ∧ j ≤ q ∧ Hid (Tu wr B A P n (.slice (some ⟨bt, ot, none⟩) n tc) (tsj f g x j) ∧ Kd (fun k => k = P) w wr)) (fun _ i _ => q - (intOf i).toNat)
  case atStart => exact ⟨0, rfl, by omega, H1.out, K1.out⟩
  case round =>
    obtain ⟨j, rfl, hj, hrel⟩ := hrel
    by_cases h1 : j < q
    · have H2 : Hid (Tu wr.drew B A P n (.slice (some ⟨bt, ot, none⟩) n tc) (tsj f g x j)) := hrel.out.1.below (drewN_below wr 1)
      have K2 : Hid (Kd (fun k => k = P) w wr.drew) := hrel.out.2.drew
      have t1 : wr.drew.cell? ⟨bt, ot + (j + 1), none⟩ = some (.int .i64 (f (j + 1))) := (World.cell?_of_block (w := w) (K2.out.block bt hbt hd)).trans (HC.out (j + 1) (by omega))
      have p1 := World.ownsRow.cellAt H2.out.own (j + 1) (by omega)
      rw [ils_get (by omega)] at p1
      have eg : tsj f g x j (j + 1) = g (j + 1) := by unfold tsj; rw [if_neg (by omega)]
      rw [eg] at p1
      have z1 := World.ownsRow.frozenAt H2.out.own j
      have pj := World.ownsRow.cellAt H2.out.own j (by omega)
      rw [ils_get (by omega)] at pj
      have b1 := HG.out (j + 1) (by omega)
      have m1 := mul_bounds (HF.out (j + 1) (by omega)) hx (by omega) (by omega)
      have p3 : (wr.drew.setCell ⟨P, j, none⟩ (.int .i64 (g (j + 1) + f (j + 1) * x))).cell? ⟨P, j + 1, none⟩ = some (.int .i64 (g (j + 1))) := by
        have := World.ownsRow.cellAt (H2.out.put (y := g (j + 1) + f (j + 1) * x) rfl).own (j + 1) (by omega)
        rw [ils_get (by omega)] at this
        rw [this]
        unfold tsj
        rw [if_neg (by omega)]
      have t3 : (wr.drew.setCell ⟨P, j, none⟩ (.int .i64 (g (j + 1) + f (j + 1) * x))).cell? ⟨bt, ot + (j + 1), none⟩ = some (.int .i64 (f (j + 1))) := (World.cell?_of_block (w := wr.drew) (Below.heap_setCell _ _ _ _ hd)).trans t1
      have H3 : Hid (Tu (wr.drew.setCell ⟨P, j, none⟩ (.int .i64 (g (j + 1) + f (j + 1) * x))) B A P n (.slice (some ⟨bt, ot, none⟩) n tc) (tsj f g x (j + 1))) := H2.out.put rfl
      have K3 : Hid (Kd (fun k => k = P) w (wr.drew.setCell ⟨P, j, none⟩ (.int .i64 (g (j + 1) + f (j + 1) * x)))) := K2.out.put (.inl rfl) j _
      obtain ⟨c0, c1, _, _⟩ := H2.out
      clear hrel
      have P3' : Hid _ := p3
      have T3' : Hid _ := t3
      clear p3 t3
      generalize g (j + 1) = g1 at p1 b1 H3 K3 P3' T3'
      generalize tsj f g x j j = gj at pj
      generalize f (j + 1) = f1 at m1 H3 K3 t1 P3' T3'
      generalize ef : f1 * x = y1 at m1 H3 K3 P3' T3'
      go_upto_region 5 with fail
      have eot : ot + j + 1 = ot + (j + 1) := by omega
      refine wp_region_any (by kernel_rfl) ?_
      change wpAny _ _ _ _ _ _ _ (World.drew _)
      generalize wr.drew = X0 at c0 c1 z1 pj p1 t1 H2 K2 H3 K3 P3' T3' ⊢
      refine wpI_any (I := fun X => X.cell? ⟨A, 0, none⟩ = some (.slice (some ⟨bt, ot, none⟩) n tc) ∧ X.cell? ⟨A, 1, none⟩ = some (.slice (some ⟨P, 0, none⟩) n n) ∧ X.cell? ⟨P, j + 1, none⟩ = some (.int .i64 g1) ∧ X.cell? ⟨bt, ot + (j + 1), none⟩ = some (.int .i64 f1)) _ _ _ _ ?_
      refine wpI_take (i := 0) (v := ?_) rfl (by kernel_rfl) (by kernel_rfl) (by kernel_rfl) (fun _ _ _ h => h) ⟨by rfl, ?_⟩ ?_
      rotate_left
      · intro X hI; obtain ⟨d0, d1, d2, d3⟩ := hI; go_simp; try go_bits
        try rw [if_pos (by omega)]
        try with_reducible rfl
      refine wpI_take (i := 1) (v := ?_) rfl (by kernel_rfl) (by kernel_rfl) (by kernel_rfl) (fun _ _ _ h => h) ⟨by rfl, ?_⟩ ?_
      rotate_left
      · intro X hI; obtain ⟨d0, d1, d2, d3⟩ := hI; go_simp; try go_bits
        try rw [if_pos (by omega)]
        try with_reducible rfl
      refine wpI_take (i := 2) (v := ?_) rfl (by kernel_rfl) (by kernel_rfl) (by kernel_rfl) (fun _ _ _ h => h) ⟨by rfl, ?_⟩ ?_
      rotate_left
      · intro X hI; obtain ⟨d0, d1, d2, d3⟩ := hI; go_simp; try go_bits
        try rw [if_pos (by omega)]
        try with_reducible rfl
      refine wpI_take (i := 3) (v := ?_) rfl (by kernel_rfl) (by kernel_rfl) (by kernel_rfl) (fun _ _ _ h => h) ⟨by rfl, ?_⟩ ?_
      rotate_left
      · intro X hI; obtain ⟨d0, d1, d2, d3⟩ := hI; go_simp; try go_bits
        try rw [if_pos (by omega)]
        try with_reducible rfl
      refine wpI_take (i := 4) (v := ?_) rfl (by kernel_rfl) (by kernel_rfl) (by kernel_rfl) (fun _ _ _ h => h) ⟨by rfl, ?_⟩ ?_
      rotate_left
      · intro X hI; obtain ⟨d0, d1, d2, d3⟩ := hI; go_simp; try go_bits
        try rw [if_pos (by omega)]
        try with_reducible rfl
      refine wpI_take (i := 5) (v := ?_) rfl (by kernel_rfl) (by kernel_rfl) (by kernel_rfl) (fun _ _ _ h => h) ⟨by rfl, ?_⟩ ?_
      rotate_left
      · intro X hI; obtain ⟨d0, d1, d2, d3⟩ := hI; go_simp; try go_bits
        try rw [if_pos (by omega)]
        try with_reducible rfl
      refine wpI_take (i := 6) (v := ?_) rfl (by kernel_rfl) (by kernel_rfl) (by kernel_rfl) (fun _ _ _ h => h) ⟨by rfl, ?_⟩ ?_
      rotate_left
      · intro X hI; obtain ⟨d0, d1, d2, d3⟩ := hI; go_simp; try go_bits
        try rw [if_pos (by omega)]
        try with_reducible rfl
      refine wpI_take (i := 7) (v := ?_) rfl (by kernel_rfl) (by kernel_rfl) (by kernel_rfl) (fun _ _ _ h => h) ⟨by rfl, ?_⟩ ?_
      rotate_left
      · intro X hI; obtain ⟨d0, d1, d2, d3⟩ := hI; go_simp; try go_bits
        try rw [if_pos (by omega)]
        try with_reducible rfl
      refine wpI_take (i := 8) (v := ?_) rfl (by kernel_rfl) (by kernel_rfl) (by kernel_rfl) (fun _ _ _ h => h) ⟨by rfl, ?_⟩ ?_
      rotate_left
      · intro X hI; obtain ⟨d0, d1, d2, d3⟩ := hI; go_simp; try go_bits
        try rw [if_pos (by omega)]
        try with_reducible rfl
      refine wpI_take (i := 9) (v := ?_) rfl (by kernel_rfl) (by kernel_rfl) (by kernel_rfl) (fun _ _ _ h => h) ⟨by rfl, ?_⟩ ?_
      rotate_left
      · intro X hI; obtain ⟨d0, d1, d2, d3⟩ := hI; go_simp; try go_bits
        try rw [if_pos (by omega)]
        try with_reducible rfl
      refine wpI_take (i := 10) (v := ?_) rfl (by kernel_rfl) (by kernel_rfl) (by kernel_rfl) (fun _ _ _ h => h) ⟨by rfl, ?_⟩ ?_
      rotate_left
      · intro X hI; obtain ⟨d0, d1, d2, d3⟩ := hI; go_simp; try go_bits
        try rw [if_pos (by omega)]
        try with_reducible rfl
      refine wpI_take (i := 11) (v := ?_) rfl (by kernel_rfl) (by kernel_rfl) (by kernel_rfl) (fun _ _ _ h => h) ⟨by rfl, ?_⟩ ?_
      rotate_left
      · intro X hI; obtain ⟨d0, d1, d2, d3⟩ := hI; go_simp; try go_bits
        try rw [if_pos (by omega)]
        try with_reducible rfl
      refine wpI_take (i := 12) (v := ?_) rfl (by kernel_rfl) (by kernel_rfl) (by kernel_rfl) (fun _ _ _ h => h) ⟨by rfl, ?_⟩ ?_
      rotate_left
      · intro X hI; obtain ⟨d0, d1, d2, d3⟩ := hI; go_simp; try go_bits
        try rw [if_pos (by omega)]
        try with_reducible rfl
      refine wpI_take (i := 13) (v := ?_) rfl (by kernel_rfl) (by kernel_rfl) (by kernel_rfl) (fun _ _ _ h => h) ⟨by rfl, ?_⟩ ?_
      rotate_left
      · intro X hI; obtain ⟨d0, d1, d2, d3⟩ := hI; go_simp; try go_bits
        try rw [if_pos (by omega)]
        try with_reducible rfl
      refine wpI_take (i := 14) (v := ?_) rfl (by kernel_rfl) (by kernel_rfl) (by kernel_rfl) (fun _ _ _ h => h) ⟨by rfl, ?_⟩ ?_
      rotate_left
      · intro X hI; obtain ⟨d0, d1, d2, d3⟩ := hI; go_simp; try go_bits
        try rw [if_pos (by omega)]
        try with_reducible rfl
      refine wpI_take (i := 15) (v := ?_) rfl (by kernel_rfl) (by kernel_rfl) (by kernel_rfl) (fun _ _ _ h => h) ⟨by rfl, ?_⟩ ?_
      rotate_left
      · intro X hI; obtain ⟨d0, d1, d2, d3⟩ := hI; go_simp; try go_bits
        try rw [if_pos (by omega)]
        try with_reducible rfl
      refine wpI_take (i := 16) (v := ?_) rfl (by kernel_rfl) (by kernel_rfl) (by kernel_rfl) (fun _ _ _ h => h) ⟨by rfl, ?_⟩ ?_
      rotate_left
      · intro X hI; obtain ⟨d0, d1, d2, d3⟩ := hI; go_simp; try go_bits
        try rw [if_pos (by omega)]
        try with_reducible rfl
      refine wpI_take (i := 17) (v := ?_) rfl (by kernel_rfl) (by kernel_rfl) (by kernel_rfl) (fun _ _ _ h => h) ⟨by rfl, ?_⟩ ?_
      rotate_left
      · intro X hI; obtain ⟨d0, d1, d2, d3⟩ := hI; go_simp; try go_bits
        try rw [if_pos (by omega)]
        try with_reducible rfl
      refine wpI_take (i := 18) (v := ?_) rfl (by kernel_rfl) (by kernel_rfl) (by kernel_rfl) (fun _ _ _ h => h) ⟨by rfl, ?_⟩ ?_
      rotate_left
      · intro X hI; obtain ⟨d0, d1, d2, d3⟩ := hI; go_simp; try go_bits
        try rw [if_pos (by omega)]
        try with_reducible rfl
      refine wpI_take (i := 19) (v := ?_) rfl (by kernel_rfl) (by kernel_rfl) (by kernel_rfl) (fun _ _ _ h => h) ⟨by rfl, ?_⟩ ?_
      rotate_left
      · intro X hI; obtain ⟨d0, d1, d2, d3⟩ := hI; go_simp; try go_bits
        try rw [if_pos (by omega)]
        try with_reducible rfl
      refine wpI_take (i := 20) (v := ?_) rfl (by kernel_rfl) (by kernel_rfl) (by kernel_rfl) (fun _ _ _ h => h) ⟨by rfl, ?_⟩ ?_
      rotate_left
      · intro X hI; obtain ⟨d0, d1, d2, d3⟩ := hI; go_simp; try go_bits
        try rw [if_pos (by omega)]
        try with_reducible rfl
      refine wpI_take (i := 21) (v := ?_) rfl (by kernel_rfl) (by kernel_rfl) (by kernel_rfl) (fun _ _ _ h => h) ⟨by rfl, ?_⟩ ?_
      rotate_left
      · intro X hI; obtain ⟨d0, d1, d2, d3⟩ := hI; go_simp; try go_bits
        try rw [if_pos (by omega)]
        try with_reducible rfl
      refine wpI_take (i := 22) (v := ?_) rfl (by kernel_rfl) (by kernel_rfl) (by kernel_rfl) (fun _ _ _ h => h) ⟨by rfl, ?_⟩ ?_
      rotate_left
      · intro X hI; obtain ⟨d0, d1, d2, d3⟩ := hI; go_simp; try go_bits
        try rw [if_pos (by omega)]
        try with_reducible rfl
      refine wpI_take (i := 23) (v := ?_) rfl (by kernel_rfl) (by kernel_rfl) (by kernel_rfl) (fun _ _ _ h => h) ⟨by rfl, ?_⟩ ?_
      rotate_left
      · intro X hI; obtain ⟨d0, d1, d2, d3⟩ := hI; go_simp; try go_bits
        try rw [if_pos (by omega)]
        try with_reducible rfl
      refine wpI_take (i := 24) (v := ?_) rfl (by kernel_rfl) (by kernel_rfl) (by kernel_rfl) (fun _ _ _ h => h) ⟨by rfl, ?_⟩ ?_
      rotate_left
      · intro X hI; obtain ⟨d0, d1, d2, d3⟩ := hI; go_simp; try go_bits
        try rw [if_pos (by omega)]
        try with_reducible rfl
      have l0 : (X0.cell? ⟨A, 0, none⟩ = some (.slice (some ⟨bt, ot, none⟩) n tc) ∧ X0.cell? ⟨A, 1, none⟩ = some (.slice (some ⟨P, 0, none⟩) n n) ∧ X0.cell? ⟨P, j + 1, none⟩ = some (.int .i64 g1) ∧ X0.cell? ⟨bt, ot + (j + 1), none⟩ = some (.int .i64 f1)) := ⟨c0, c1, p1, t1⟩
      refine wpI_only (i := 25) rfl (by kernel_rfl) l0 (by rfl) ?_
      intro K hK
      go_simp
      try go_bits
      refine hK _ _ ?_
      clear hK K
      refine wpI_done ⟨H3.out.c0, H3.out.c1, P3'.out, T3'.out⟩ (by kernel_rfl) ?_ _
      clear c0 c1 z1 pj p1 t1 l0
      go_wp2
      go_roundw
      case rel => exact ⟨j + 1, by go_num, by omega, H3.out, K3.out⟩
      case measure => simp [intOf]; omega
    · obtain rfl : q = j := by omega
      go_wp2
      go_ret
      refine ⟨rfl, ?_, hrel.out.2⟩
      rw [show n - 1 = q by omega]
      exact hrel.out.1
end Go.Proofs.Ytimjbpmppigaoaa
