/- Sums of wide numbers: addFinite at numbers. -/
import Derived.Test.YtcpnmcfpnhokgaaDoorA7
import Derived.Test.YtcpnmcfpnhokgaaDoorA8
import Derived.Test.YtcpnmcfpnhokgaaDoorHA0
import Derived.Test.YtcpnmcfpnhokgaaDoorHJ9
namespace Go.Proofs.YtcpnmcfpnhokgaaDoor
open Go.RowKit

theorem tot_add {g E : Int} (n : Bool) {X Y k a : Nat} (hg : g = E - 64 - a) (hX0 : 85070591730234615865843651857942052864 ≤ X) (hX1 : X < 170141183460469231731687303715884105728) (hXe : X % 2 = 0) (hY1 : Y < 170141183460469231731687303715884105728) :
    X + jam (Y / 2 ^ k) (Y % 2 ^ k) < 340282366920938463463374607431768211456 ∧ ∀ p t h S m : Int, p ≤ 53 →
      rndV p t h S m (E + k - 64) n (X + jam (Y / 2 ^ k) (Y % 2 ^ k)) false = rndV p t h S m g n (X * 2 ^ (a + k) + Y * 2 ^ a) false ∧
      rndF p t h m (E + k - 64) n (X + jam (Y / 2 ^ k) (Y % 2 ^ k)) false = rndF p t h m g n (X * 2 ^ (a + k) + Y * 2 ^ a) false := by
  refine ⟨(core_add (p := 0) (t := 0) (h := 0) (S := 0) (mode := 0) (e := 0) n (by decide) hX0 hX1 hXe hY1).1, fun p t h S m hp => ?_⟩
  obtain ⟨_, c1, c2⟩ := core_add (p := p) (t := t) (h := h) (S := S) (mode := m) (e := E - 64) (k := k) n hp hX0 hX1 hXe hY1
  have hpos : 0 < X * 2 ^ k := Nat.mul_pos (by omega) (Nat.pow_pos (by decide))
  obtain ⟨d1, d2⟩ := rnd_same (p := p) (t := t) (h := h) (S := S) (mode := m) (e := E - 64) (e' := g) n (N := X * 2 ^ k + Y) (N' := X * 2 ^ (a + k) + Y * 2 ^ a) (s := a) (s' := 0) (by omega) (by omega) (by rw [Nat.pow_zero, Nat.mul_one, Nat.add_mul, Nat.pow_add]; ac_rfl)
  rw [show E + (k : Int) - 64 = E - 64 + k by omega]
  exact ⟨c1.trans d1, c2.trans d2⟩

theorem tot_sub {g E : Int} (n n' : Bool) {X Y k a : Nat} (hg : g = E - 64 - a) (hX0 : 85070591730234615865843651857942052864 ≤ X) (hX1 : X < 170141183460469231731687303715884105728) (hXe : X % 2 = 0) (hY0 : 85070591730234615865843651857942052864 ≤ Y) (hY1 : Y < 170141183460469231731687303715884105728) (hYe : Y % 2 = 0) :
    jam (Y / 2 ^ k) (Y % 2 ^ k) < 170141183460469231731687303715884105728 ∧ (jam (Y / 2 ^ k) (Y % 2 ^ k) < X ↔ Y * 2 ^ a < X * 2 ^ (a + k)) ∧ (X < jam (Y / 2 ^ k) (Y % 2 ^ k) ↔ X * 2 ^ (a + k) < Y * 2 ^ a) ∧
      (Y * 2 ^ a < X * 2 ^ (a + k) → ∀ p t h S m : Int, p ≤ 53 → rndV p t h S m (E + k - 64) n (X - jam (Y / 2 ^ k) (Y % 2 ^ k)) false = rndV p t h S m g n (X * 2 ^ (a + k) - Y * 2 ^ a) false ∧
      rndF p t h m (E + k - 64) n (X - jam (Y / 2 ^ k) (Y % 2 ^ k)) false = rndF p t h m g n (X * 2 ^ (a + k) - Y * 2 ^ a) false) ∧
      (X * 2 ^ (a + k) < Y * 2 ^ a → ∀ p t h S m : Int, p ≤ 53 → rndV p t h S m (E + k - 64) n' (jam (Y / 2 ^ k) (Y % 2 ^ k) - X) false = rndV p t h S m g n' (Y * 2 ^ a - X * 2 ^ (a + k)) false ∧
      rndF p t h m (E + k - 64) n' (jam (Y / 2 ^ k) (Y % 2 ^ k) - X) false = rndF p t h m g n' (Y * 2 ^ a - X * 2 ^ (a + k)) false) := by
  have hA : 0 < 2 ^ a := Nat.pow_pos (by decide)
  have e1 : X * 2 ^ (a + k) = X * 2 ^ k * 2 ^ a := by rw [Nat.pow_add]; ac_rfl
  rw [e1, Nat.mul_lt_mul_right hA, Nat.mul_lt_mul_right hA, ← Nat.mul_sub_right_distrib, ← Nat.mul_sub_right_distrib, show E + (k : Int) - 64 = E - 64 + k by omega]
  obtain ⟨c1, c2, c3, _⟩ := core_sub (p := 0) (t := 0) (h := 0) (S := 0) (mode := 0) (e := 0) (k := k) n (by decide) hX0 hX1 hXe hY0 hY1 hYe
  refine ⟨c1, c2, c3, fun hlt p t h S m hp => ?_, fun hlt p t h S m hp => ?_⟩
  · obtain ⟨_, _, _, c4, _⟩ := core_sub (p := p) (t := t) (h := h) (S := S) (mode := m) (e := E - 64) (k := k) n hp hX0 hX1 hXe hY0 hY1 hYe
    obtain ⟨d1, d2⟩ := rnd_same (p := p) (t := t) (h := h) (S := S) (mode := m) (e := E - 64) (e' := g) n (N := X * 2 ^ k - Y) (N' := (X * 2 ^ k - Y) * 2 ^ a) (s := a) (s' := 0) (by omega) (by omega) (by rw [Nat.pow_zero, Nat.mul_one])
    exact ⟨(c4 hlt).1.trans d1, (c4 hlt).2.trans d2⟩
  · obtain ⟨_, _, _, _, c5⟩ := core_sub (p := p) (t := t) (h := h) (S := S) (mode := m) (e := E - 64) (k := k) n' hp hX0 hX1 hXe hY0 hY1 hYe
    obtain ⟨d1, d2⟩ := rnd_same (p := p) (t := t) (h := h) (S := S) (mode := m) (e := E - 64) (e' := g) n' (N := Y - X * 2 ^ k) (N' := (Y - X * 2 ^ k) * 2 ^ a) (s := a) (s' := 0) (by omega) (by omega) (by rw [Nat.pow_zero, Nat.mul_one])
    exact ⟨(c5 hlt).1.trans d1, (c5 hlt).2.trans d2⟩

/-- What a sum of two numbers, of signs n1 and n2, both counted in steps of 2^g, is. -/
def Summed (mode g : Int) (n1 n2 : Bool) (P Q : Nat) (K E : Int) (R : Nat) (n : Bool) : Prop :=
  (n1 ≠ n2 ∧ P = Q ∧ K = 0 ∧ E = 0 ∧ R = 0 ∧ n = (mode == 5)) ∨
  (K = 1 ∧ 0 < R ∧ R < 340282366920938463463374607431768211456 ∧ -60000 ≤ E ∧ E ≤ 60000 ∧ ∃ T : Nat, ((n1 = n2 ∧ n = n1 ∧ T = P + Q) ∨ (n1 ≠ n2 ∧ Q < P ∧ n = n1 ∧ T = P - Q) ∨ (n1 ≠ n2 ∧ P < Q ∧ n = n2 ∧ T = Q - P)) ∧
    ∀ p t h S m : Int, p ≤ 53 → rndV p t h S m (E - 64) n R false = rndV p t h S m g n T false ∧ rndF p t h m (E - 64) n R false = rndF p t h m g n T false)

/-- A number lifted and sunk by one. -/
theorem lift_sink (E : Int) (n : Bool) (N : Nat) (h0 : 0 < N) (h1 : N < 85070591730234615865843651857942052864) (hE0 : -50000 ≤ E) (hE1 : E ≤ 50000) :
    ∃ l, Rets 63 #[v5 1 E (N / 18446744073709551616 : Nat) (N % 18446744073709551616 : Nat) n] l ∧
      Rets 89 #[l, .int .i64 1] (v5 1 (E - ((127 - blen N : Nat) : Int)) (N * 2 ^ (127 - blen N) / 18446744073709551616 : Nat) (N * 2 ^ (127 - blen N) % 18446744073709551616 : Nat) n) := by
  obtain ⟨x0, x1, x2, x3, x4⟩ := lift_half h0 h1
  have e2 : N * 2 ^ (128 - blen N) = N * 2 ^ (127 - blen N) * 2 := by
    rw [show 128 - blen N = 127 - blen N + 1 by omega, Nat.pow_succ]; ac_rfl
  refine ⟨v5 1 (E - ((128 - blen N : Nat) : Int)) (N * 2 ^ (128 - blen N) / 18446744073709551616 : Nat) (N * 2 ^ (128 - blen N) % 18446744073709551616 : Nat) n, fun W => (lifted_any 1 E n N W h0 (by omega) (by omega) (by omega)).mono ?_, fun W => ?_⟩
  · rintro e w' ⟨rfl, rfl⟩
    exact ⟨rfl, (below_two _ _).drew⟩
  · have := sunk_any 1 (E - ((128 - blen N : Nat) : Int)) n (N * 2 ^ (128 - blen N)) 1 W (by omega) (Or.inl (by decide)) (by decide) (by omega) (by omega)
    rw [x3, show E - ((128 - blen N : Nat) : Int) + ((1 : Nat) : Int) = E - ((127 - blen N : Nat) : Int) by omega] at this
    exact this

theorem addW {X J : Nat} (h : X + J < 340282366920938463463374607431768211456) :
    (∀ w, (callFunc 91 #[.int .u64 (X % 18446744073709551616 : Nat), .int .u64 (J % 18446744073709551616 : Nat), .int .u64 0]).run Tryd.prog w = .ok (.value (.tuple #[.int .u64 ((X + J) % 18446744073709551616 : Nat), .int .u64 ((X % 18446744073709551616 + J % 18446744073709551616) / 18446744073709551616 : Nat)])) w) ∧
    IntKind.u64.wrap (((X / 18446744073709551616 : Nat) : Int) + ((J / 18446744073709551616 : Nat) : Int)) = ((X / 18446744073709551616 + J / 18446744073709551616 : Nat) : Int) ∧
    IntKind.u64.wrap (((X / 18446744073709551616 + J / 18446744073709551616 : Nat) : Int) + (((X % 18446744073709551616 + J % 18446744073709551616) / 18446744073709551616 : Nat) : Int)) = (((X + J) / 18446744073709551616 : Nat) : Int) := by
  refine ⟨fun w => ?_, ?_, ?_⟩
  · rw [run_add64W, show (X % 18446744073709551616 + J % 18446744073709551616) % 18446744073709551616 = (X + J) % 18446744073709551616 by omega]
  · rw [IntKind.wrap_u64]; omega
  · rw [IntKind.wrap_u64]; omega

theorem addF_hi (mode E1 E2 g : Int) (n1 n2 : Bool) (N1 N2 : Nat) (h10 : 0 < N1) (h11 : N1 < 85070591730234615865843651857942052864) (h20 : 0 < N2) (h21 : N2 < 85070591730234615865843651857942052864)
    (e10 : -40000 ≤ E1) (e11 : E1 ≤ 40000) (e20 : -40000 ≤ E2) (e21 : E2 ≤ 40000) (hg1 : g ≤ E1 - 191) (hg2 : g ≤ E2 - 191) (hc : E2 - ((127 - blen N2 : Nat) : Int) ≤ E1 - ((127 - blen N1 : Nat) : Int)) :
    ∃ (K E : Int) (R : Nat) (n : Bool), Rets 62 #[.int .i64 mode, v5 1 E1 (N1 / 18446744073709551616 : Nat) (N1 % 18446744073709551616 : Nat) n1, v5 1 E2 (N2 / 18446744073709551616 : Nat) (N2 % 18446744073709551616 : Nat) n2] (v5 K E (R / 18446744073709551616 : Nat) (R % 18446744073709551616 : Nat) n) ∧
      Summed mode g n1 n2 (N1 * 2 ^ (E1 - 64 - g).toNat) (N2 * 2 ^ (E2 - 64 - g).toNat) K E R n := by
  obtain ⟨x0, x1, x2, -, x4⟩ := lift_half h10 h11
  obtain ⟨y0, y1, y2, -, y4⟩ := lift_half h20 h21
  obtain ⟨lx, hLx, hSx⟩ := lift_sink E1 n1 N1 h10 h11 (by omega) (by omega)
  obtain ⟨ly, hLy, hSy⟩ := lift_sink E2 n2 N2 h20 h21 (by omega) (by omega)
  have ep1 : N1 * 2 ^ (E1 - 64 - g).toNat = N1 * 2 ^ (127 - blen N1) * 2 ^ (E1 - ((127 - blen N1 : Nat) : Int) - 64 - g).toNat := by
    rw [Nat.mul_assoc, ← Nat.pow_add]; congr 2; omega
  have ep2 : N2 * 2 ^ (E2 - 64 - g).toNat = N2 * 2 ^ (127 - blen N2) * 2 ^ (E2 - ((127 - blen N2 : Nat) : Int) - 64 - g).toNat := by
    rw [Nat.mul_assoc, ← Nat.pow_add]; congr 2; omega
  rw [ep1, ep2]
  clear ep1 ep2
  generalize hEX : E1 - ((127 - blen N1 : Nat) : Int) = EX at *
  generalize hEY : E2 - ((127 - blen N2 : Nat) : Int) = EY at *
  have bX : -50000 ≤ EX ∧ EX ≤ 50000 ∧ g ≤ EX - 64 := by omega
  have bY : -50000 ≤ EY ∧ EY ≤ 50000 ∧ g ≤ EY - 64 := by omega
  generalize N1 * 2 ^ (127 - blen N1) = X at *
  generalize N2 * 2 ^ (127 - blen N2) = Y at *
  clear hEX hEY x4 y4 h10 h11 h20 h21 hg1 hg2 e10 e11 e20 e21
  obtain ⟨a, ha⟩ : ∃ a : Nat, a = (EY - 64 - g).toNat := ⟨_, rfl⟩
  obtain ⟨k, hk⟩ : ∃ k : Nat, (EX - EY) = (k : Int) := ⟨(EX - EY).toNat, by omega⟩
  have hak : (EX - 64 - g).toNat = a + k := by omega
  rw [hak, ← ha]
  have hEk : EX = EY + (k : Int) := by omega
  have hw := wrap_small (EX - EY) (by omega) (by omega)
  have hS : Rets 89 #[v5 1 EY (Y / 18446744073709551616 : Nat) (Y % 18446744073709551616 : Nat) n2, .int .i64 (EX - EY)] (v5 1 EX (jam (Y / 2 ^ k) (Y % 2 ^ k) / 18446744073709551616 : Nat) (jam (Y / 2 ^ k) (Y % 2 ^ k) % 18446744073709551616 : Nat) n2) := fun W => by
    have := sunk_any 1 EY n2 Y k W (by omega) (Or.inr y1) (by omega) (by omega) (by omega)
    rw [← hEk, ← hk] at this
    exact this
  by_cases hn : n1 = n2
  · obtain ⟨j0, j1⟩ := tot_add (g := g) (E := EY) n1 (X := X) (Y := Y) (k := k) (a := a) (by omega) x0 x1 x2 y1
    rw [← hEk] at j1
    obtain ⟨w1, w2, w3⟩ := addW j0
    refine ⟨1, EX, _, n1, fun W => addF_na (mode := mode) (hLx := hLx) (hLy := hLy) (hSx := hSx) (hSy := hSy) (hlt := decide_eq_false (by omega)) (hw := hw) (hS := hS) (hne := by simp [hn]) (hA := w1) (hw1 := w2) (hw2 := w3) (w := W), Or.inr ⟨rfl, by omega, j0, by omega, by omega, _, Or.inl ⟨hn, rfl, rfl⟩, j1⟩⟩
  · obtain ⟨j0, j1, j2, j3, j4⟩ := tot_sub (g := g) (E := EY) n1 n2 (X := X) (Y := Y) (k := k) (a := a) (by omega) x0 x1 x2 y0 y1 y2
    rw [← hEk] at j3 j4
    have hne : (n1 == n2) = false := by simpa using hn
    generalize jam (Y / 2 ^ k) (Y % 2 ^ k) = J at *
    rcases Nat.lt_trichotomy J X with hl | hl | hl
    · refine ⟨1, EX, X - J, n1, fun W => addF_ns (hLx := hLx) (hLy := hLy) (hSx := hSx) (hSy := hSy) (hlt := decide_eq_false (by omega)) (hw := hw) (hS := hS) (hne := hne) (hR := fun W => subF_any mode EX n1 n2 X J W (by omega) hl) (w := W), Or.inr ⟨rfl, by omega, by omega, by omega, by omega, _, Or.inr (Or.inl ⟨hn, j1.1 hl, rfl, rfl⟩), j3 (j1.1 hl)⟩⟩
    · refine ⟨0, 0, 0, mode == 5, fun W => addF_ns (hLx := hLx) (hLy := hLy) (hSx := hSx) (hSy := hSy) (hlt := decide_eq_false (by omega)) (hw := hw) (hS := hS) (hne := hne) (hR := fun W => hl ▸ subF_zero mode EX n1 n2 J W (by omega)) (w := W), Or.inl ⟨hn, by omega, rfl, rfl, rfl, rfl⟩⟩
    · refine ⟨1, EX, J - X, n2, fun W => addF_ns (hLx := hLx) (hLy := hLy) (hSx := hSx) (hSy := hSy) (hlt := decide_eq_false (by omega)) (hw := hw) (hS := hS) (hne := hne) (hR := fun W => subF_swap mode EX n1 n2 X J W (by omega) hl) (w := W), Or.inr ⟨rfl, by omega, by omega, by omega, by omega, _, Or.inr (Or.inr ⟨hn, j2.1 hl, rfl, rfl⟩), j4 (j2.1 hl)⟩⟩

theorem addF_lo (mode E1 E2 g : Int) (n1 n2 : Bool) (N1 N2 : Nat) (h10 : 0 < N1) (h11 : N1 < 85070591730234615865843651857942052864) (h20 : 0 < N2) (h21 : N2 < 85070591730234615865843651857942052864)
    (e10 : -40000 ≤ E1) (e11 : E1 ≤ 40000) (e20 : -40000 ≤ E2) (e21 : E2 ≤ 40000) (hg1 : g ≤ E1 - 191) (hg2 : g ≤ E2 - 191) (hc : E1 - ((127 - blen N1 : Nat) : Int) < E2 - ((127 - blen N2 : Nat) : Int)) :
    ∃ (K E : Int) (R : Nat) (n : Bool), Rets 62 #[.int .i64 mode, v5 1 E1 (N1 / 18446744073709551616 : Nat) (N1 % 18446744073709551616 : Nat) n1, v5 1 E2 (N2 / 18446744073709551616 : Nat) (N2 % 18446744073709551616 : Nat) n2] (v5 K E (R / 18446744073709551616 : Nat) (R % 18446744073709551616 : Nat) n) ∧
      Summed mode g n1 n2 (N1 * 2 ^ (E1 - 64 - g).toNat) (N2 * 2 ^ (E2 - 64 - g).toNat) K E R n := by
  obtain ⟨x0, x1, x2, -, x4⟩ := lift_half h10 h11
  obtain ⟨y0, y1, y2, -, y4⟩ := lift_half h20 h21
  obtain ⟨lx, hLx, hSx⟩ := lift_sink E1 n1 N1 h10 h11 (by omega) (by omega)
  obtain ⟨ly, hLy, hSy⟩ := lift_sink E2 n2 N2 h20 h21 (by omega) (by omega)
  have ep1 : N1 * 2 ^ (E1 - 64 - g).toNat = N1 * 2 ^ (127 - blen N1) * 2 ^ (E1 - ((127 - blen N1 : Nat) : Int) - 64 - g).toNat := by
    rw [Nat.mul_assoc, ← Nat.pow_add]; congr 2; omega
  have ep2 : N2 * 2 ^ (E2 - 64 - g).toNat = N2 * 2 ^ (127 - blen N2) * 2 ^ (E2 - ((127 - blen N2 : Nat) : Int) - 64 - g).toNat := by
    rw [Nat.mul_assoc, ← Nat.pow_add]; congr 2; omega
  rw [ep1, ep2]
  clear ep1 ep2
  generalize hEX : E1 - ((127 - blen N1 : Nat) : Int) = EX at *
  generalize hEY : E2 - ((127 - blen N2 : Nat) : Int) = EY at *
  have bX : -50000 ≤ EX ∧ EX ≤ 50000 ∧ g ≤ EX - 64 := by omega
  have bY : -50000 ≤ EY ∧ EY ≤ 50000 ∧ g ≤ EY - 64 := by omega
  generalize N1 * 2 ^ (127 - blen N1) = X at *
  generalize N2 * 2 ^ (127 - blen N2) = Y at *
  clear hEX hEY x4 y4 h10 h11 h20 h21 hg1 hg2 e10 e11 e20 e21
  obtain ⟨a, ha⟩ : ∃ a : Nat, a = (EX - 64 - g).toNat := ⟨_, rfl⟩
  obtain ⟨k, hk⟩ : ∃ k : Nat, (EY - EX) = (k : Int) := ⟨(EY - EX).toNat, by omega⟩
  have hak : (EY - 64 - g).toNat = a + k := by omega
  rw [hak, ← ha]
  have hEk : EY = EX + (k : Int) := by omega
  have hw := wrap_small (EY - EX) (by omega) (by omega)
  have hS : Rets 89 #[v5 1 EX (X / 18446744073709551616 : Nat) (X % 18446744073709551616 : Nat) n1, .int .i64 (EY - EX)] (v5 1 EY (jam (X / 2 ^ k) (X % 2 ^ k) / 18446744073709551616 : Nat) (jam (X / 2 ^ k) (X % 2 ^ k) % 18446744073709551616 : Nat) n1) := fun W => by
    have := sunk_any 1 EX n1 X k W (by omega) (Or.inr x1) (by omega) (by omega) (by omega)
    rw [← hEk, ← hk] at this
    exact this
  by_cases hn : n1 = n2
  · obtain ⟨j0, j1⟩ := tot_add (g := g) (E := EX) n2 (X := Y) (Y := X) (k := k) (a := a) (by omega) y0 y1 y2 x1
    rw [← hEk] at j1
    obtain ⟨w1, w2, w3⟩ := addW j0
    refine ⟨1, EY, _, n2, fun W => addF_sa (mode := mode) (hLx := hLx) (hLy := hLy) (hSx := hSx) (hSy := hSy) (hlt := decide_eq_true (by omega)) (hw := hw) (hS := hS) (hne := by simp [hn]) (hA := w1) (hw1 := w2) (hw2 := w3) (w := W), Or.inr ⟨rfl, by omega, j0, by omega, by omega, _, Or.inl ⟨hn, hn.symm, Nat.add_comm _ _⟩, j1⟩⟩
  · obtain ⟨j0, j1, j2, j3, j4⟩ := tot_sub (g := g) (E := EX) n2 n1 (X := Y) (Y := X) (k := k) (a := a) (by omega) y0 y1 y2 x0 x1 x2
    rw [← hEk] at j3 j4
    have hne : (n2 == n1) = false := by simpa using fun e => hn e.symm
    generalize jam (X / 2 ^ k) (X % 2 ^ k) = J at *
    rcases Nat.lt_trichotomy J Y with hl | hl | hl
    · refine ⟨1, EY, Y - J, n2, fun W => addF_ss (hLx := hLx) (hLy := hLy) (hSx := hSx) (hSy := hSy) (hlt := decide_eq_true (by omega)) (hw := hw) (hS := hS) (hne := hne) (hR := fun W => subF_any mode EY n2 n1 Y J W (by omega) hl) (w := W), Or.inr ⟨rfl, by omega, by omega, by omega, by omega, _, Or.inr (Or.inr ⟨hn, j1.1 hl, rfl, rfl⟩), j3 (j1.1 hl)⟩⟩
    · refine ⟨0, 0, 0, mode == 5, fun W => addF_ss (hLx := hLx) (hLy := hLy) (hSx := hSx) (hSy := hSy) (hlt := decide_eq_true (by omega)) (hw := hw) (hS := hS) (hne := hne) (hR := fun W => hl ▸ subF_zero mode EY n2 n1 J W (by omega)) (w := W), Or.inl ⟨hn, by omega, rfl, rfl, rfl, rfl⟩⟩
    · refine ⟨1, EY, J - Y, n1, fun W => addF_ss (hLx := hLx) (hLy := hLy) (hSx := hSx) (hSy := hSy) (hlt := decide_eq_true (by omega)) (hw := hw) (hS := hS) (hne := hne) (hR := fun W => subF_swap mode EY n2 n1 Y J W (by omega) hl) (w := W), Or.inr ⟨rfl, by omega, by omega, by omega, by omega, _, Or.inr (Or.inl ⟨hn, j2.1 hl, rfl, rfl⟩), j4 (j2.1 hl)⟩⟩

theorem addF_any (mode E1 E2 g : Int) (n1 n2 : Bool) (N1 N2 : Nat) (h10 : 0 < N1) (h11 : N1 < 85070591730234615865843651857942052864) (h20 : 0 < N2) (h21 : N2 < 85070591730234615865843651857942052864)
    (e10 : -40000 ≤ E1) (e11 : E1 ≤ 40000) (e20 : -40000 ≤ E2) (e21 : E2 ≤ 40000) (hg1 : g ≤ E1 - 191) (hg2 : g ≤ E2 - 191) :
    ∃ (K E : Int) (R : Nat) (n : Bool), Rets 62 #[.int .i64 mode, v5 1 E1 (N1 / 18446744073709551616 : Nat) (N1 % 18446744073709551616 : Nat) n1, v5 1 E2 (N2 / 18446744073709551616 : Nat) (N2 % 18446744073709551616 : Nat) n2] (v5 K E (R / 18446744073709551616 : Nat) (R % 18446744073709551616 : Nat) n) ∧
      Summed mode g n1 n2 (N1 * 2 ^ (E1 - 64 - g).toNat) (N2 * 2 ^ (E2 - 64 - g).toNat) K E R n := by
  by_cases hc : E2 - ((127 - blen N2 : Nat) : Int) ≤ E1 - ((127 - blen N1 : Nat) : Int)
  · exact addF_hi mode E1 E2 g n1 n2 N1 N2 h10 h11 h20 h21 e10 e11 e20 e21 hg1 hg2 hc
  · exact addF_lo mode E1 E2 g n1 n2 N1 N2 h10 h11 h20 h21 e10 e11 e20 e21 hg1 hg2 (by omega)
end Go.Proofs.YtcpnmcfpnhokgaaDoor
