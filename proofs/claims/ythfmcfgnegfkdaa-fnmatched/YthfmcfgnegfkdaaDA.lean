/- Samples that come in; sums that go over; an adapting line. -/
import Derived.Test.YthfmcfgnegfkdaaRC
import Derived.Test.YthfmcfgnegfkdaaWA
import Derived.Test.YthfmcfgnegfkdaaI1
import Derived.BigQuiet
import Derived.Deep.QuietTactic
namespace Go.Proofs.Ythfmcfgnegfkdaa
open Go.RowKit

/-- A list with x ahead of it. -/
def shf (x : Int) (z : Nat → Int) (i : Nat) : Int := if i = 0 then x else z (i - 1)

/-- The first j moved on. -/
def mvd (x : Int) (z : Nat → Int) (j i : Nat) : Int := if i < j then shf x z i else z i

theorem mvd_put (x : Int) (z : Nat → Int) (n j : Nat) : (ils (mvd x z j) n).set j (.int .i64 (shf x z j)) = ils (mvd x z (j + 1)) n := by
  rw [ils_put]
  refine ils_congr fun i _ => ?_
  unfold mvd
  by_cases h : i = j
  · subst h; rw [if_pos rfl, if_pos (by omega)]
  · rw [if_neg h]
    by_cases h1 : i < j
    · rw [if_pos h1, if_pos (by omega)]
    · rw [if_neg h1, if_neg (by omega)]

theorem mvd_at (x : Int) (z : Nat → Int) (j : Nat) : mvd x z j j = z j := by unfold mvd; rw [if_neg (by omega)]

set_option maxHeartbeats 2000000 in
theorem come_any {w : World} {B g n : Nat} {z : Nat → Int} {x : Int} (ho : w.ownsRow B 3 1 (.slice (some ⟨g, 0, none⟩) n n) n (ils z n)) (hn : n ≤ 64) :
    Calls Try.prog 52 #[.slice (some ⟨g, 0, none⟩) n n, .int .i64 x] w fun e w' => (∃ v, e = .returned v) ∧ w'.ownsRow B 3 1 (.slice (some ⟨g, 0, none⟩) n n) n (ils (shf x z) n) ∧ Kd (fun k => k = g) w w' := by
  have HO : Hid (w.ownsRow B 3 1 (.slice (some ⟨g, 0, none⟩) n n) n (ils (mvd x z 0) n)) := by
    show w.ownsRow B 3 1 (.slice (some ⟨g, 0, none⟩) n n) n (ils (mvd x z 0) n)
    rw [show ils (mvd x z 0) n = ils z n from ils_congr fun i _ => by simp [mvd]]; exact ho
  clear ho
  go_enter Try.func52, Try.ntmps52
  go_wp2
  go_loopw [1, 4, 7] (fun xv _ i wr => ∃ k : Nat, i = .int .i64 k ∧ xv = .int .i64 (shf x z k) ∧ k ≤ n ∧ Hid (wr.ownsRow B 3 1 (.slice (some ⟨g, 0, none⟩) n n) n (ils (mvd x z k) n) ∧ Kd (fun k => k = g) w wr)) (fun _ _ i _ => n - (intOf i).toNat)
  case atStart => exact ⟨0, rfl, by simp [shf], by omega, HO.out, Kd.refl _ _⟩
  case round =>
    obtain ⟨k, rfl, rfl, hk, hrel⟩ := hrel
    by_cases h1 : k < n
    · have d0 := World.ownsRow.cellAt hrel.out.1 k (by omega)
      rw [ils_get h1, mvd_at] at d0
      have z0 := World.ownsRow.frozenAt hrel.out.1 k
      have e1 : z k = shf x z (k + 1) := by unfold shf; rw [if_neg (by omega)]; rfl
      rw [e1] at d0
      obtain ⟨y1, hy1⟩ : ∃ y1, y1 = shf x z (k + 1) := ⟨_, rfl⟩
      rw [← hy1] at d0
      have Y1 : Hid (y1 = shf x z (k + 1)) := hy1
      clear hy1 e1
      have O1 : Hid ((wr.setCell ⟨g, k, none⟩ (.int .i64 (shf x z k))).ownsRow B 3 1 (.slice (some ⟨g, 0, none⟩) n n) n (ils (mvd x z (k + 1)) n)) := by
        have := (World.ownsRow.stored hrel.out.1 k (.int .i64 (shf x z k))).1
        rw [mvd_put] at this
        exact this
      have K1 : Hid (Kd (fun k => k = g) w (wr.setCell ⟨g, k, none⟩ (.int .i64 (shf x z k)))) := hrel.out.2.put (.inl rfl) k _
      generalize shf x z k = y0 at O1 K1 ⊢
      go_wp2
      go_roundw
      case rel => exact ⟨k + 1, by go_num, by rw [Y1.out], by omega, O1.out, K1.out⟩
      case measure => simp [intOf]; omega
    · obtain rfl : n = k := by omega
      have HF : Hid (wr.ownsRow B 3 1 (.slice (some ⟨g, 0, none⟩) n n) n (ils (shf x z) n)) := by
        have := hrel.out.1
        rw [show ils (mvd x z n) n = ils (shf x z) n from ils_congr fun i hi => by simp [mvd, hi]] at this
        exact this
      go_wp2
      go_end0
      exact ⟨⟨_, rfl⟩, HF.out, hrel.out.2⟩

/-- The sum of the first k products. -/
def dts (f z : Nat → Int) : Nat → Int
  | 0 => 0
  | k + 1 => dts f z k + f k * z k

theorem mul_bounds {a b A B : Int} (ha : -A ≤ a ∧ a ≤ A) (hb : -B ≤ b ∧ b ≤ B) (hA : 0 ≤ A) (hB : 0 ≤ B) : -(A * B) ≤ a * b ∧ a * b ≤ A * B := by
  have h1 : (a * b).natAbs ≤ A.natAbs * B.natAbs := by rw [Int.natAbs_mul]; exact Nat.mul_le_mul (by omega) (by omega)
  have h2 : ((A.natAbs * B.natAbs : Nat) : Int) = A * B := by rw [Int.natCast_mul, Int.natAbs_of_nonneg hA, Int.natAbs_of_nonneg hB]
  omega

theorem dts_bounds {n : Nat} {f z : Nat → Int} (hf : Wth 1000000 n f) (hz : Wth 32767 n z) : ∀ k, k ≤ n → -(32767000000 * (k : Int)) ≤ dts f z k ∧ dts f z k ≤ 32767000000 * (k : Int)
  | 0, _ => by simp [dts]
  | k + 1, hk => by
    have h1 := dts_bounds hf hz k (by omega)
    have h2 := mul_bounds (hf k (by omega)) (hz k (by omega)) (by omega) (by omega)
    unfold dts
    omega

/-- An adapting line: by, the taps, the samples, what is still wanted. -/
structure Ad (W : World) (B A P1 P2 n : Nat) (b : Int) (f z : Nat → Int) (wv : Value) : Prop where
  c0 : W.cell? ⟨A, 0, none⟩ = some (.int .i64 b)
  c1 : W.cell? ⟨A, 1, none⟩ = some (.slice (some ⟨P1, 0, none⟩) n n)
  c2 : W.cell? ⟨A, 2, none⟩ = some (.slice (some ⟨P2, 0, none⟩) n n)
  c3 : W.cell? ⟨A, 3, none⟩ = some wv
  z3 : W.frozen? ⟨A, 3, none⟩ = false
  o1 : W.ownsRow B 3 1 (.slice (some ⟨P1, 0, none⟩) n n) n (ils f n)
  o2 : W.ownsRow B 3 1 (.slice (some ⟨P2, 0, none⟩) n n) n (ils z n)
  n1 : A ≠ P1
  n2 : A ≠ P2
  n3 : P1 ≠ P2

abbrev AdD (A P1 P2 : Nat) (g : Nat) : Prop := g = A ∨ g = P1 ∨ g = P2

theorem Ad.lt {W : World} {B A P1 P2 n : Nat} {b : Int} {f z : Nat → Int} {wv : Value} (h : Ad W B A P1 P2 n b f z wv) : A < W.heap.size ∧ P1 < W.heap.size ∧ P2 < W.heap.size :=
  ⟨World.block_lt_of_cell? W _ h.c0, (own_lt h.o1).2, (own_lt h.o2).2⟩

theorem Ad.block {W W' : World} {B A P1 P2 n : Nat} {b : Int} {f z : Nat → Int} {wv : Value} (h : Ad W B A P1 P2 n b f z wv) (e : ∀ g, AdD A P1 P2 g → W'.heap[g]? = W.heap[g]?) : Ad W' B A P1 P2 n b f z wv :=
  ⟨(World.cell?_of_block (w := W) (e A (.inl rfl))).trans h.c0, (World.cell?_of_block (w := W) (e A (.inl rfl))).trans h.c1, (World.cell?_of_block (w := W) (e A (.inl rfl))).trans h.c2, (World.cell?_of_block (w := W) (e A (.inl rfl))).trans h.c3, (World.frozen?_of_block (w := W) (e A (.inl rfl))).trans h.z3,
    own_block h.o1 (e P1 (.inr (.inl rfl))), own_block h.o2 (e P2 (.inr (.inr rfl))), h.n1, h.n2, h.n3⟩

theorem Ad.below {W W' : World} {B A P1 P2 n : Nat} {b : Int} {f z : Nat → Int} {wv : Value} (h : Ad W B A P1 P2 n b f z wv) (hb : Below W.heap.size W W') : Ad W' B A P1 P2 n b f z wv :=
  h.block (fun g hg => hb.block g (by have := h.lt; omega))

end Go.Proofs.Ythfmcfgnegfkdaa
