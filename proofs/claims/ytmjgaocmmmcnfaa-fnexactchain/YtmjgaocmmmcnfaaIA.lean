/- A recursive filter's step. -/
import Derived.Test.YtmjgaocmmmcnfaaRB
import Derived.BigQuiet
namespace Go.Proofs.Ytmjgaocmmmcnfaa
open Go.RowKit

/-- A recursive filter in a block of its own: five factors, and the past. -/
structure Rc (W : World) (g : Nat) (b0 b1 b2 a1 a2 x1 x2 y1 y2 e : Int) : Prop where
  c0 : W.cell? ⟨g, 0, none⟩ = some (.int .i64 b0)
  c1 : W.cell? ⟨g, 1, none⟩ = some (.int .i64 b1)
  c2 : W.cell? ⟨g, 2, none⟩ = some (.int .i64 b2)
  c3 : W.cell? ⟨g, 3, none⟩ = some (.int .i64 a1)
  c4 : W.cell? ⟨g, 4, none⟩ = some (.int .i64 a2)
  c5 : W.cell? ⟨g, 5, none⟩ = some (.int .i64 x1)
  c6 : W.cell? ⟨g, 6, none⟩ = some (.int .i64 x2)
  c7 : W.cell? ⟨g, 7, none⟩ = some (.int .i64 y1)
  c8 : W.cell? ⟨g, 8, none⟩ = some (.int .i64 y2)
  c9 : W.cell? ⟨g, 9, none⟩ = some (.int .i64 e)
  z0 : W.frozen? ⟨g, 0, none⟩ = false
  z1 : W.frozen? ⟨g, 1, none⟩ = false
  z2 : W.frozen? ⟨g, 2, none⟩ = false
  z3 : W.frozen? ⟨g, 3, none⟩ = false
  z4 : W.frozen? ⟨g, 4, none⟩ = false
  z5 : W.frozen? ⟨g, 5, none⟩ = false
  z6 : W.frozen? ⟨g, 6, none⟩ = false
  z7 : W.frozen? ⟨g, 7, none⟩ = false
  z8 : W.frozen? ⟨g, 8, none⟩ = false
  z9 : W.frozen? ⟨g, 9, none⟩ = false

theorem Rc.lt {W : World} {g : Nat} {b0 b1 b2 a1 a2 x1 x2 y1 y2 e : Int} (h : Rc W g b0 b1 b2 a1 a2 x1 x2 y1 y2 e) : g < W.heap.size := World.block_lt_of_cell? W _ h.c0

theorem Rc.block {W W' : World} {g : Nat} {b0 b1 b2 a1 a2 x1 x2 y1 y2 e : Int} (h : Rc W g b0 b1 b2 a1 a2 x1 x2 y1 y2 e) (hb : W'.heap[g]? = W.heap[g]?) : Rc W' g b0 b1 b2 a1 a2 x1 x2 y1 y2 e :=
  ⟨(World.cell?_of_block (w := W) hb).trans h.c0, (World.cell?_of_block (w := W) hb).trans h.c1, (World.cell?_of_block (w := W) hb).trans h.c2, (World.cell?_of_block (w := W) hb).trans h.c3, (World.cell?_of_block (w := W) hb).trans h.c4, (World.cell?_of_block (w := W) hb).trans h.c5, (World.cell?_of_block (w := W) hb).trans h.c6, (World.cell?_of_block (w := W) hb).trans h.c7, (World.cell?_of_block (w := W) hb).trans h.c8, (World.cell?_of_block (w := W) hb).trans h.c9, (World.frozen?_of_block (w := W) hb).trans h.z0, (World.frozen?_of_block (w := W) hb).trans h.z1, (World.frozen?_of_block (w := W) hb).trans h.z2, (World.frozen?_of_block (w := W) hb).trans h.z3, (World.frozen?_of_block (w := W) hb).trans h.z4, (World.frozen?_of_block (w := W) hb).trans h.z5, (World.frozen?_of_block (w := W) hb).trans h.z6, (World.frozen?_of_block (w := W) hb).trans h.z7, (World.frozen?_of_block (w := W) hb).trans h.z8, (World.frozen?_of_block (w := W) hb).trans h.z9⟩

theorem Rc.new (w : World) (b0 b1 b2 a1 a2 x1 x2 y1 y2 e : Int) (t : TypeId) : Rc (w.alloc (.cells #[.int .i64 b0, .int .i64 b1, .int .i64 b2, .int .i64 a1, .int .i64 a2, .int .i64 x1, .int .i64 x2, .int .i64 y1, .int .i64 y2, .int .i64 e] t)) w.heap.size b0 b1 b2 a1 a2 x1 x2 y1 y2 e :=
  ⟨by simp, by simp, by simp, by simp, by simp, by simp, by simp, by simp, by simp, by simp, by simp, by simp, by simp, by simp, by simp, by simp, by simp, by simp, by simp, by simp⟩

/-- The nearer end of a tap. -/
def tap (x : Int) : Int := min (max x (-1000000)) 1000000

/-- What a recursive filter reckons. -/
def rct (b0 b1 b2 a1 a2 x1 x2 y1 y2 e x : Int) : Int := b0 * x + b1 * x1 + b2 * x2 - a1 * y1 - a2 * y2 + e

/-- All within their bounds. -/
structure Rgd (b0 b1 b2 a1 a2 x1 x2 y1 y2 e : Int) : Prop where
  f0 : -65536 ≤ b0 ∧ b0 ≤ 65536
  f1 : -65536 ≤ b1 ∧ b1 ≤ 65536
  f2 : -65536 ≤ b2 ∧ b2 ≤ 65536
  f3 : -65536 ≤ a1 ∧ a1 ≤ 65536
  f4 : -65536 ≤ a2 ∧ a2 ≤ 65536
  p1 : -1000000 ≤ x1 ∧ x1 ≤ 1000000
  p2 : -1000000 ≤ x2 ∧ x2 ≤ 1000000
  p3 : -1000000 ≤ y1 ∧ y1 ≤ 1000000
  p4 : -1000000 ≤ y2 ∧ y2 ≤ 1000000
  p5 : 0 ≤ e ∧ e ≤ 16383

theorem mul_bounds {a b A B : Int} (ha : -A ≤ a ∧ a ≤ A) (hb : -B ≤ b ∧ b ≤ B) (_ : 0 ≤ A) (_ : 0 ≤ B) : -(A * B) ≤ a * b ∧ a * b ≤ A * B := by
  have h1 := Int.mul_nonneg (show 0 ≤ A - a by omega) (show 0 ≤ B - b by omega)
  have h2 := Int.mul_nonneg (show 0 ≤ A + a by omega) (show 0 ≤ B + b by omega)
  have h3 := Int.mul_nonneg (show 0 ≤ A - a by omega) (show 0 ≤ B + b by omega)
  have h4 := Int.mul_nonneg (show 0 ≤ A + a by omega) (show 0 ≤ B - b by omega)
  simp only [Int.sub_mul, Int.mul_sub, Int.add_mul, Int.mul_add] at h1 h2 h3 h4
  omega

theorem tap_bounds (x : Int) : -1000000 ≤ tap x ∧ tap x ≤ 1000000 := by unfold tap; omega

theorem toTap_any (x : Int) (w : World) : Calls Try.prog 49 #[.int .i64 x] w fun e w' => e = .returned (.int .i64 (tap x)) ∧ w' = w := by
  obtain ⟨y, hy⟩ : ∃ y, y = tap x := ⟨_, rfl⟩
  rw [← hy]
  have HY : Hid (y = tap x) := hy
  clear hy
  by_cases h1 : x < -1000000
  · have e1 : (if x < -1000000 then -1000000 else x) = -1000000 := if_pos h1
    go_enter Try.func49, Try.ntmps49
    go_wp2
    go_ret
    exact ⟨congrArg (fun z => Ending.returned (.int .i64 z)) (by rw [HY.out]; unfold tap; omega), rfl⟩
  · have e1 : (if x < -1000000 then -1000000 else x) = x := if_neg h1
    by_cases h2 : 1000000 < x
    · go_enter Try.func49, Try.ntmps49
      go_wp2
      go_ret
      exact ⟨congrArg (fun z => Ending.returned (.int .i64 z)) (by rw [HY.out]; unfold tap; omega), rfl⟩
    · go_enter Try.func49, Try.ntmps49
      go_wp2
      go_ret
      exact ⟨congrArg (fun z => Ending.returned (.int .i64 z)) (by rw [HY.out]; unfold tap; omega), rfl⟩

/-- Five ints in a block of their own. -/
structure R5 (W : World) (g : Nat) (x1 x2 y1 y2 e : Int) : Prop where
  c0 : W.cell? ⟨g, 0, none⟩ = some (.int .i64 x1)
  c1 : W.cell? ⟨g, 1, none⟩ = some (.int .i64 x2)
  c2 : W.cell? ⟨g, 2, none⟩ = some (.int .i64 y1)
  c3 : W.cell? ⟨g, 3, none⟩ = some (.int .i64 y2)
  c4 : W.cell? ⟨g, 4, none⟩ = some (.int .i64 e)

theorem R5.new (w : World) (x1 x2 y1 y2 e : Int) (t : TypeId) : R5 (w.alloc (.cells #[.int .i64 x1, .int .i64 x2, .int .i64 y1, .int .i64 y2, .int .i64 e] t)) w.heap.size x1 x2 y1 y2 e :=
  ⟨by simp, by simp, by simp, by simp, by simp⟩

theorem R5.block {W W' : World} {g : Nat} {x1 x2 y1 y2 e : Int} (h : R5 W g x1 x2 y1 y2 e) (hb : W'.heap[g]? = W.heap[g]?) : R5 W' g x1 x2 y1 y2 e :=
  ⟨(World.cell?_of_block (w := W) hb).trans h.c0, (World.cell?_of_block (w := W) hb).trans h.c1, (World.cell?_of_block (w := W) hb).trans h.c2, (World.cell?_of_block (w := W) hb).trans h.c3, (World.cell?_of_block (w := W) hb).trans h.c4⟩

theorem Rc.put {W : World} {g : Nat} {b0 b1 b2 a1 a2 x1 x2 y1 y2 e : Int} (h : Rc W g b0 b1 b2 a1 a2 x1 x2 y1 y2 e) (p q r s u : Int) : Rc (((((W.setCell ⟨g, 5, none⟩ (.int .i64 p)).setCell ⟨g, 6, none⟩ (.int .i64 q)).setCell ⟨g, 7, none⟩ (.int .i64 r)).setCell ⟨g, 8, none⟩ (.int .i64 s)).setCell ⟨g, 9, none⟩ (.int .i64 u)) g b0 b1 b2 a1 a2 p q r s u := by
  obtain ⟨c0, c1, c2, c3, c4, c5, c6, c7, c8, c9, z0, z1, z2, z3, z4, z5, z6, z7, z8, z9⟩ := h
  exact ⟨by simp [go_sem, c0], by simp [go_sem, c1], by simp [go_sem, c2], by simp [go_sem, c3], by simp [go_sem, c4], by simp [go_sem, c5], by simp [go_sem, c6], by simp [go_sem, c7], by simp [go_sem, c8], by simp [go_sem, c9], by simp [go_sem, z0], by simp [go_sem, z1], by simp [go_sem, z2], by simp [go_sem, z3], by simp [go_sem, z4], by simp [go_sem, z5], by simp [go_sem, z6], by simp [go_sem, z7], by simp [go_sem, z8], by simp [go_sem, z9]⟩

set_option maxHeartbeats 4000000 in
theorem rStep {w : World} {G : Nat} {b0 b1 b2 a1 a2 x1 x2 y1 y2 e x : Int} (h : Rc w G b0 b1 b2 a1 a2 x1 x2 y1 y2 e) (hg : Rgd b0 b1 b2 a1 a2 x1 x2 y1 y2 e) (hx : -1000000 ≤ x ∧ x ≤ 1000000) :
    Calls Try.prog 48 #[.pointer (some ⟨G, 0, none⟩), .int .i64 x] w fun r w' => r = .returned (.int .i64 (tap (rct b0 b1 b2 a1 a2 x1 x2 y1 y2 e x / 16384))) ∧ Rc w' G b0 b1 b2 a1 a2 x x1 (tap (rct b0 b1 b2 a1 a2 x1 x2 y1 y2 e x / 16384)) y1 (rct b0 b1 b2 a1 a2 x1 x2 y1 y2 e x % 16384) ∧ Kd (fun g => g = G) w w' := by
  have m0 := mul_bounds hg.f0 hx (by omega) (by omega)
  have m1 := mul_bounds hg.f1 hg.p1 (by omega) (by omega)
  have m2 := mul_bounds hg.f2 hg.p2 (by omega) (by omega)
  have m3 := mul_bounds hg.f3 hg.p3 (by omega) (by omega)
  have m4 := mul_bounds hg.f4 hg.p4 (by omega) (by omega)
  have p5 := hg.p5
  obtain ⟨t, ht⟩ : ∃ t, t = rct b0 b1 b2 a1 a2 x1 x2 y1 y2 e x := ⟨_, rfl⟩
  rw [← ht]
  have et : b0 * x + b1 * x1 + b2 * x2 - a1 * y1 - a2 * y2 + e = t := ht.symm
  have bt : -327680016383 ≤ t ∧ t ≤ 327680016383 := by omega
  clear ht
  obtain ⟨q, hq⟩ : ∃ q, q = t / 16384 := ⟨_, rfl⟩
  obtain ⟨y, hy⟩ : ∃ y, y = tap q := ⟨_, rfl⟩
  obtain ⟨r0, hr⟩ : ∃ r0, r0 = t % 16384 := ⟨_, rfl⟩
  rw [← hq, ← hy, ← hr]
  have eq1 : t / 16384 = q := hq.symm
  have er1 : t - q * 16384 = r0 := by omega
  have bq : -20000002 ≤ q ∧ q ≤ 20000002 := by omega
  have br : 0 ≤ r0 ∧ r0 ≤ 16383 := by omega
  have HR : Hid (r0 = t % 16384) := hr
  clear hr
  have HQ : Hid (q = t / 16384) := hq
  have by1 := tap_bounds q
  have i1 := toTap_any q
  rw [← hy] at i1 by1
  clear hq hy
  have H : Hid (Rc w G b0 b1 b2 a1 a2 x1 x2 y1 y2 e) := h
  obtain ⟨c0, c1, c2, c3, c4, c5, c6, c7, c8, c9, z0, z1, z2, z3, z4, z5, z6, z7, z8, z9⟩ := h
  clear hg
  go_enter Try.func48, Try.ntmps48
  go_wp2
  have H1 : Hid (Rc (w.alloc (.cells #[.int .i64 x1, .int .i64 x2, .int .i64 y1, .int .i64 y2, .int .i64 e] 27)) G b0 b1 b2 a1 a2 x1 x2 y1 y2 e) := H.out.block ((below_one w _).block G H.out.lt)
  have P1 : Hid (R5 (w.alloc (.cells #[.int .i64 x1, .int .i64 x2, .int .i64 y1, .int .i64 y2, .int .i64 e] 27)) w.heap.size x1 x2 y1 y2 e) := R5.new _ _ _ _ _ _ _
  have K1 : Hid (Kd (fun g => g = G) w (w.alloc (.cells #[.int .i64 x1, .int .i64 x2, .int .i64 y1, .int .i64 y2, .int .i64 e] 27))) := Kd.of_below (below_one _ _)
  have hGP : G ≠ w.heap.size := by have := H.out.lt; omega
  clear H c0 c1 c2 c3 c4 c5 c6 c7 c8 c9 z0 z1 z2 z3 z4 z5 z6 z7 z8 z9
  generalize hPP : w.heap.size = P at *
  have HPP : Hid (w.heap.size = P) := hPP
  clear hPP
  generalize w.alloc (.cells #[.int .i64 x1, .int .i64 x2, .int .i64 y1, .int .i64 y2, .int .i64 e] 27) = W1 at H1 P1 K1 ⊢
  obtain ⟨c0, c1, c2, c3, c4, c5, c6, c7, c8, c9, z0, z1, z2, z3, z4, z5, z6, z7, z8, z9⟩ := H1.out
  obtain ⟨d0, d1, d2, d3, d4⟩ := P1.out
  go_quiet (fail)
  have H2 : Hid (Rc (W1.drewN nq) G b0 b1 b2 a1 a2 x1 x2 y1 y2 e) := H1.out.block rfl
  have P2 : Hid (R5 (W1.drewN nq) P x1 x2 y1 y2 e) := P1.out.block rfl
  have K2 : Hid (Kd (fun g => g = G) w (W1.drewN nq)) := K1.out.drewN nq
  clear H1 P1 K1 c0 c1 c2 c3 c4 c5 c6 c7 c8 c9 z0 z1 z2 z3 z4 z5 z6 z7 z8 z9 d0 d1 d2 d3 d4
  generalize W1.drewN nq = W2 at H2 P2 K2 ⊢
  clear et m0 m1 m2 m3 m4
  obtain ⟨c0, c1, c2, c3, c4, c5, c6, c7, c8, c9, z0, z1, z2, z3, z4, z5, z6, z7, z8, z9⟩ := H2.out
  obtain ⟨d0, d1, d2, d3, d4⟩ := P2.out
  go_wp2_with (first | (go_at_call 49; (with_reducible refine (i1 _).mono ?_); rintro e w' ⟨rfl, hw⟩; obtain rfl := hw.symm))
  have H3 : Hid (Rc (((((W2.setCell ⟨G, 5, none⟩ (.int .i64 x)).setCell ⟨G, 6, none⟩ (.int .i64 x1)).setCell ⟨G, 7, none⟩ (.int .i64 y)).setCell ⟨G, 8, none⟩ (.int .i64 y1)).setCell ⟨G, 9, none⟩ (.int .i64 r0)) G b0 b1 b2 a1 a2 x x1 y y1 r0) := H2.out.put _ _ _ _ _
  have K3 : Hid (Kd (fun g => g = G) w (((((W2.setCell ⟨G, 5, none⟩ (.int .i64 x)).setCell ⟨G, 6, none⟩ (.int .i64 x1)).setCell ⟨G, 7, none⟩ (.int .i64 y)).setCell ⟨G, 8, none⟩ (.int .i64 y1)).setCell ⟨G, 9, none⟩ (.int .i64 r0))) := ((((K2.out.put (.inl rfl) 5 _).put (.inl rfl) 6 _).put (.inl rfl) 7 _).put (.inl rfl) 8 _).put (.inl rfl) 9 _
  go_ret
  exact ⟨rfl, H3.out, K3.out⟩
end Go.Proofs.Ytmjgaocmmmcnfaa
