/- isAir; a point turned, as the model does it. -/
import Derived.Test.YtlcfcdpgggocnaaAI
namespace Go.Proofs.Ytlcfcdpgggocnaa
open Go.RowKit

/-- What Air takes. -/
def Gin (n : Nat) (z : Nat → Int) (m : Nat) (y : Nat → Int) (dl q : Int) : Prop := (n ≤ 4096 ∧ Pok n z) ∧ (m ≤ 4096 ∧ Pok m y) ∧ 0 ≤ dl ∧ dl ≤ 200 ∧ 0 ≤ q ∧ q ≤ 3 ∧ (m : Int) ≤ dl + n
instance (n : Nat) (z : Nat → Int) (m : Nat) (y : Nat → Int) (dl q : Int) : Decidable (Gin n z m y dl q) := by unfold Gin; infer_instance

set_option maxHeartbeats 2000000 in
theorem isAir_any {w : World} {v u : Value} {n m : Nat} {z y : Nat → Int} {dl q : Int} (hv : Il2 w v n z) (hu : Il2 w u m y) (hn : n ≤ 1048576) (hm : m ≤ 1048576) : Calls Try.prog 15 #[v, .int .i64 dl, .int .i64 q, u] w fun e w' => e = .returned (.bool (decide (Gin n z m y dl q))) ∧ Below w.heap.size w w' := by
  have i1 := burst_any hv hn
  have i2 : Hid (∀ W, Below w.heap.size w W → Calls Try.prog 17 #[u] W fun e w' => e = .returned (.bool (decide (m ≤ 4096 ∧ Pok m y))) ∧ Below W.heap.size W w') := fun W hW => burst_any (hu.below hW) hm
  obtain ⟨ao, cap, rfl, hcap, hc⟩ := hv
  obtain ⟨bo, bap, rfl, hbap, hbc⟩ := hu
  clear hc hbc
  by_cases h0 : n ≤ 4096 ∧ Pok n z
  · rw [decide_eq_true h0] at i1
    by_cases h1 : m ≤ 4096 ∧ Pok m y
    · simp only [decide_eq_true h1] at i2
      by_cases h2 : 0 ≤ dl
      · skip
        by_cases h3 : dl ≤ 200
        · skip
          by_cases h4 : 0 ≤ q
          · skip
            by_cases h5 : q ≤ 3
            · skip
              by_cases h6 : (m : Int) ≤ dl + n
              · skip
                go_enter Try.func15, Try.ntmps15
                go_wp2_with (first | (go_at_call 17; (fail_if_success have := M1); (with_reducible refine i1.mono ?_); rintro e w1 ⟨rfl, hb1⟩; have M1 : Hid True := trivial; have B1 : Hid (Below w.heap.size w w1) := hb1; clear hb1) | (go_at_call 17; have Z := M1; (with_reducible refine (i2.out _ B1.out).mono ?_); rintro e w2 ⟨rfl, hb2⟩; have B1 : Hid (Below w.heap.size w w2) := bstep B1.out hb2; clear hb2))
                go_ret
                exact ⟨congrArg (fun z => Ending.returned (.bool z)) (by rw [decide_eq_true (show Gin n z m y dl q from ⟨h0, h1, h2, h3, h4, h5, h6⟩)]; try (first | rfl | (simp; done) | (simp; omega))), B1.out⟩
              · skip
                go_enter Try.func15, Try.ntmps15
                go_wp2_with (first | (go_at_call 17; (fail_if_success have := M1); (with_reducible refine i1.mono ?_); rintro e w1 ⟨rfl, hb1⟩; have M1 : Hid True := trivial; have B1 : Hid (Below w.heap.size w w1) := hb1; clear hb1) | (go_at_call 17; have Z := M1; (with_reducible refine (i2.out _ B1.out).mono ?_); rintro e w2 ⟨rfl, hb2⟩; have B1 : Hid (Below w.heap.size w w2) := bstep B1.out hb2; clear hb2))
                go_ret
                exact ⟨congrArg (fun z => Ending.returned (.bool z)) (by rw [decide_eq_false (fun g : Gin n z m y dl q => by have g9 := g.2.2.2.2.2.2; first | exact h6 g9 | omega)]; try (first | rfl | (simp; done) | (simp; omega))), B1.out⟩
            · skip
              go_enter Try.func15, Try.ntmps15
              go_wp2_with (first | (go_at_call 17; (fail_if_success have := M1); (with_reducible refine i1.mono ?_); rintro e w1 ⟨rfl, hb1⟩; have M1 : Hid True := trivial; have B1 : Hid (Below w.heap.size w w1) := hb1; clear hb1) | (go_at_call 17; have Z := M1; (with_reducible refine (i2.out _ B1.out).mono ?_); rintro e w2 ⟨rfl, hb2⟩; have B1 : Hid (Below w.heap.size w w2) := bstep B1.out hb2; clear hb2))
              go_ret
              exact ⟨congrArg (fun z => Ending.returned (.bool z)) (by rw [decide_eq_false (fun g : Gin n z m y dl q => by have g9 := g.2.2.2.2.2.1; first | exact h5 g9 | omega)]; try (first | rfl | (simp; done) | (simp; omega))), B1.out⟩
          · skip
            go_enter Try.func15, Try.ntmps15
            go_wp2_with (first | (go_at_call 17; (fail_if_success have := M1); (with_reducible refine i1.mono ?_); rintro e w1 ⟨rfl, hb1⟩; have M1 : Hid True := trivial; have B1 : Hid (Below w.heap.size w w1) := hb1; clear hb1) | (go_at_call 17; have Z := M1; (with_reducible refine (i2.out _ B1.out).mono ?_); rintro e w2 ⟨rfl, hb2⟩; have B1 : Hid (Below w.heap.size w w2) := bstep B1.out hb2; clear hb2))
            go_ret
            exact ⟨congrArg (fun z => Ending.returned (.bool z)) (by rw [decide_eq_false (fun g : Gin n z m y dl q => by have g9 := g.2.2.2.2.1; first | exact h4 g9 | omega)]; try (first | rfl | (simp; done) | (simp; omega))), B1.out⟩
        · skip
          go_enter Try.func15, Try.ntmps15
          go_wp2_with (first | (go_at_call 17; (fail_if_success have := M1); (with_reducible refine i1.mono ?_); rintro e w1 ⟨rfl, hb1⟩; have M1 : Hid True := trivial; have B1 : Hid (Below w.heap.size w w1) := hb1; clear hb1) | (go_at_call 17; have Z := M1; (with_reducible refine (i2.out _ B1.out).mono ?_); rintro e w2 ⟨rfl, hb2⟩; have B1 : Hid (Below w.heap.size w w2) := bstep B1.out hb2; clear hb2))
          go_ret
          exact ⟨congrArg (fun z => Ending.returned (.bool z)) (by rw [decide_eq_false (fun g : Gin n z m y dl q => by have g9 := g.2.2.2.1; first | exact h3 g9 | omega)]; try (first | rfl | (simp; done) | (simp; omega))), B1.out⟩
      · skip
        go_enter Try.func15, Try.ntmps15
        go_wp2_with (first | (go_at_call 17; (fail_if_success have := M1); (with_reducible refine i1.mono ?_); rintro e w1 ⟨rfl, hb1⟩; have M1 : Hid True := trivial; have B1 : Hid (Below w.heap.size w w1) := hb1; clear hb1) | (go_at_call 17; have Z := M1; (with_reducible refine (i2.out _ B1.out).mono ?_); rintro e w2 ⟨rfl, hb2⟩; have B1 : Hid (Below w.heap.size w w2) := bstep B1.out hb2; clear hb2))
        go_ret
        exact ⟨congrArg (fun z => Ending.returned (.bool z)) (by rw [decide_eq_false (fun g : Gin n z m y dl q => by have g9 := g.2.2.1; first | exact h2 g9 | omega)]; try (first | rfl | (simp; done) | (simp; omega))), B1.out⟩
    · simp only [decide_eq_false h1] at i2
      go_enter Try.func15, Try.ntmps15
      go_wp2_with (first | (go_at_call 17; (fail_if_success have := M1); (with_reducible refine i1.mono ?_); rintro e w1 ⟨rfl, hb1⟩; have M1 : Hid True := trivial; have B1 : Hid (Below w.heap.size w w1) := hb1; clear hb1) | (go_at_call 17; have Z := M1; (with_reducible refine (i2.out _ B1.out).mono ?_); rintro e w2 ⟨rfl, hb2⟩; have B1 : Hid (Below w.heap.size w w2) := bstep B1.out hb2; clear hb2))
      go_ret
      exact ⟨congrArg (fun z => Ending.returned (.bool z)) (by rw [decide_eq_false (fun g : Gin n z m y dl q => by have g9 := g.2.1; first | exact h1 g9 | omega)]; try (first | rfl | (simp; done) | (simp; omega))), B1.out⟩
  · rw [decide_eq_false h0] at i1
    go_enter Try.func15, Try.ntmps15
    go_wp2_with (first | (go_at_call 17; (fail_if_success have := M1); (with_reducible refine i1.mono ?_); rintro e w1 ⟨rfl, hb1⟩; have M1 : Hid True := trivial; have B1 : Hid (Below w.heap.size w w1) := hb1; clear hb1) | (go_at_call 17; have Z := M1; (with_reducible refine (i2.out _ B1.out).mono ?_); rintro e w2 ⟨rfl, hb2⟩; have B1 : Hid (Below w.heap.size w w2) := bstep B1.out hb2; clear hb2))
    go_ret
    exact ⟨congrArg (fun z => Ending.returned (.bool z)) (by rw [decide_eq_false (fun g : Gin n z m y dl q => by have g9 := g.1; first | exact h0 g9 | omega)]; try (first | rfl | (simp; done) | (simp; omega))), B1.out⟩

theorem t_succ (k : Nat) (hk : k < 3) (x y : Int) : tx (k + 1) x y = - ty k x y ∧ ty (k + 1) x y = tx k x y := by
  rcases (show k = 0 ∨ k = 1 ∨ k = 2 by omega) with rfl | rfl | rfl <;> simp [tx, ty]

theorem t_in {q : Nat} {x y : Int} (hx : Smp x) (hy : Smp y) : Smp (tx q x y) ∧ Smp (ty q x y) := by
  unfold Smp at *
  unfold tx ty
  split <;> (try split) <;> (try split) <;> omega

/-- A pair of ints in a block of its own. -/
structure P2 (W : World) (g : Nat) (x y : Int) : Prop where
  c0 : W.cell? ⟨g, 0, none⟩ = some (.int .i64 x)
  c1 : W.cell? ⟨g, 1, none⟩ = some (.int .i64 y)
  z0 : W.frozen? ⟨g, 0, none⟩ = false
  z1 : W.frozen? ⟨g, 1, none⟩ = false

theorem P2.new (w : World) (x y : Int) (t : TypeId) : P2 (w.alloc (.cells #[.int .i64 x, .int .i64 y] t)) w.heap.size x y := ⟨by simp, by simp, by simp, by simp⟩

theorem P2.block {W W' : World} {g : Nat} {x y : Int} (h : P2 W g x y) (e : W'.heap[g]? = W.heap[g]?) : P2 W' g x y :=
  ⟨(World.cell?_of_block (w := W) e).trans h.c0, (World.cell?_of_block (w := W) e).trans h.c1, (World.frozen?_of_block (w := W) e).trans h.z0, (World.frozen?_of_block (w := W) e).trans h.z1⟩

theorem P2.call {W W' : World} {g : Nat} {x y : Int} (h : P2 W g x y) (hb : Below W.heap.size W W') : P2 W' g x y := h.block (hb.block _ (World.block_lt_of_cell? W _ h.c0))

theorem P2.put {W : World} {g : Nat} {x y : Int} (h : P2 W g x y) (a b : Int) : P2 ((W.setCell ⟨g, 0, none⟩ (.int .i64 a)).setCell ⟨g, 1, none⟩ (.int .i64 b)) g a b := by
  obtain ⟨c0, c1, z0, z1⟩ := h
  exact ⟨by simp [go_sem, c0], by simp [go_sem, c1], by simp [go_sem, z0], by simp [go_sem, z1]⟩

theorem P2.other {W : World} {g g' : Nat} {x y : Int} (h : P2 W g x y) (hne : g ≠ g') (a b : Value) : P2 ((W.setCell ⟨g', 0, none⟩ a).setCell ⟨g', 1, none⟩ b) g x y :=
  h.block ((Below.heap_setCell _ _ _ _ hne).trans (Below.heap_setCell _ _ _ _ hne))

set_option maxHeartbeats 4000000 in
theorem quarter_any {q : Nat} (hq : q < 4) {x y : Int} (hx : Smp x) (hy : Smp y) (w : World) : Calls Try.prog 13 #[.agg #[.int .i64 x, .int .i64 y], .int .i64 (q : Int)] w fun e w' => e = .returned (.agg #[.int .i64 (tx q x y), .int .i64 (ty q x y)]) ∧ Below w.heap.size w w' := by
  have HS : Hid (∀ k, Smp (tx k x y) ∧ Smp (ty k x y)) := fun k => t_in hx hy
  have HT : Hid (∀ k, k < 3 → tx (k + 1) x y = - ty k x y ∧ ty (k + 1) x y = tx k x y) := fun k hk => t_succ k hk x y
  clear hx hy
  have p1 : P2 (w.alloc (.cells #[.int .i64 x, .int .i64 y] 34)) w.heap.size x y := P2.new _ _ _ _
  have b1 := below_one w (.cells #[.int .i64 x, .int .i64 y] 34)
  have s1 : (w.alloc (.cells #[.int .i64 x, .int .i64 y] 34)).heap.size = w.heap.size + 1 := by simp
  have p2 : P2 ((w.alloc (.cells #[.int .i64 x, .int .i64 y] 34)).alloc (.cells #[.int .i64 0, .int .i64 0] 34)) (w.heap.size + 1) 0 0 := by have := P2.new (w.alloc (.cells #[.int .i64 x, .int .i64 y] 34)) 0 0 34; rwa [s1] at this
  have b2 := below_one (w.alloc (.cells #[.int .i64 x, .int .i64 y] 34)) (.cells #[.int .i64 0, .int .i64 0] 34)
  have HA : Hid (Below w.heap.size w ((w.alloc (.cells #[.int .i64 x, .int .i64 y] 34)).alloc (.cells #[.int .i64 0, .int .i64 0] 34)) ∧ P2 ((w.alloc (.cells #[.int .i64 x, .int .i64 y] 34)).alloc (.cells #[.int .i64 0, .int .i64 0] 34)) w.heap.size (tx 0 x y) (ty 0 x y) ∧ P2 ((w.alloc (.cells #[.int .i64 x, .int .i64 y] 34)).alloc (.cells #[.int .i64 0, .int .i64 0] 34)) (w.heap.size + 1) 0 0) := ⟨bstep b1 b2, by have := p1.call b2; simpa [tx, ty] using this, p2⟩
  clear p1 b1 s1 p2 b2
  go_enter Try.func13, Try.ntmps13
  go_wp2
  generalize (w.alloc (.cells #[.int .i64 x, .int .i64 y] 34)).alloc (.cells #[.int .i64 0, .int .i64 0] 34) = W0 at *
  go_loopw [1] (fun i wr => ∃ k : Nat, i = .int .i64 ((q - k : Nat) : Int) ∧ k ≤ q ∧ Hid (Below w.heap.size w wr ∧ P2 wr w.heap.size (tx k x y) (ty k x y) ∧ P2 wr (w.heap.size + 1) 0 0)) (fun i _ => (intOf i).toNat)
  case atStart => exact ⟨0, by simp, by omega, HA.out⟩
  case round =>
    obtain ⟨k, rfl, hk, hrel⟩ := hrel
    by_cases h1 : k < q
    · have hs := (HS.out k).2
      unfold Smp at hs
      have ht := HT.out k (by omega)
      obtain ⟨X, hX⟩ : ∃ X, X = tx k x y := ⟨_, rfl⟩
      obtain ⟨Y, hY⟩ : ∃ Y, Y = ty k x y := ⟨_, rfl⟩
      rw [← hX, ← hY] at ht
      rw [← hY] at hs
      rw [← hX, ← hY] at hrel
      obtain ⟨c0, c1, z0, z1⟩ := hrel.out.2.1
      obtain ⟨m, hm⟩ : ∃ m : Nat, m = q - k := ⟨_, rfl⟩
      rw [← hm]
      have hm1 : 0 < m := by omega
      have HN : Hid (Below w.heap.size w ((wr.setCell ⟨w.heap.size, 0, none⟩ (.int .i64 (-Y))).setCell ⟨w.heap.size, 1, none⟩ (.int .i64 X)) ∧ P2 ((wr.setCell ⟨w.heap.size, 0, none⟩ (.int .i64 (-Y))).setCell ⟨w.heap.size, 1, none⟩ (.int .i64 X)) w.heap.size (tx (k + 1) x y) (ty (k + 1) x y) ∧ P2 ((wr.setCell ⟨w.heap.size, 0, none⟩ (.int .i64 (-Y))).setCell ⟨w.heap.size, 1, none⟩ (.int .i64 X)) (w.heap.size + 1) 0 0) :=
        ⟨(hrel.out.1.setCell (p := ⟨w.heap.size, 0, none⟩) (Nat.le_refl _) _).setCell (p := ⟨w.heap.size, 1, none⟩) (Nat.le_refl _) _, by rw [ht.1, ht.2]; exact hrel.out.2.1.put _ _, hrel.out.2.2.other (by omega) _ _⟩
      clear hX hY ht hrel
      go_wp2
      go_roundw
      case rel => exact ⟨k + 1, by first | go_num | (congr 1; omega), by omega, HN.out⟩
      case measure => simp [intOf]; omega
    · obtain rfl : q = k := by omega
      rw [Nat.sub_self]
      obtain ⟨X, hX⟩ : ∃ X, X = tx q x y := ⟨_, rfl⟩
      obtain ⟨Y, hY⟩ : ∃ Y, Y = ty q x y := ⟨_, rfl⟩
      rw [← hX, ← hY] at hrel
      have HXY : Hid (X = tx q x y ∧ Y = ty q x y) := ⟨hX, hY⟩
      clear hX hY
      obtain ⟨c0, c1, z0, z1⟩ := hrel.out.2.1
      obtain ⟨d0, d1, y0, y1⟩ := hrel.out.2.2
      have pe := hrel.out.2.2.put X Y
      have BE : Hid (Below w.heap.size w ((wr.setCell ⟨w.heap.size + 1, 0, none⟩ (.int .i64 X)).setCell ⟨w.heap.size + 1, 1, none⟩ (.int .i64 Y))) := (hrel.out.1.setCell (p := ⟨w.heap.size + 1, 0, none⟩) (Nat.le_succ _) _).setCell (p := ⟨w.heap.size + 1, 1, none⟩) (Nat.le_succ _) _
      clear hrel
      go_wp2
      generalize (wr.setCell ⟨w.heap.size + 1, 0, none⟩ (.int .i64 X)).setCell ⟨w.heap.size + 1, 1, none⟩ (.int .i64 Y) = w7 at BE pe ⊢
      obtain ⟨e0, e1, _, _⟩ := pe
      refine bodyPost_ret (v := .agg #[.int .i64 X, .int .i64 Y]) (by simp [results, Try.results13, go_sem, e0, e1]) rfl ?_
      exact ⟨by rw [HXY.out.1, HXY.out.2], BE.out⟩
end Go.Proofs.Ytlcfcdpgggocnaa
