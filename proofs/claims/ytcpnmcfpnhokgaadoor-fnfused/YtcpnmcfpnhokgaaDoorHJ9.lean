/- A number rounds alike however it is written. -/
import Derived.Test.YtcpnmcfpnhokgaaDoorHJ0
import Derived.Test.YtcpnmcfpnhokgaaDoorHM7
import Derived.Test.YtcpnmcfpnhokgaaDoorHA0
namespace Go.Proofs.YtcpnmcfpnhokgaaDoor
open Go.RowKit

/-- The same value at two exponents is rounded the same. -/
theorem rnd_same {p t h S mode e e' : Int} (neg : Bool) {N N' s s' : Nat} (hN : 0 < N) (he : e - s = e' - s') (hv : N * 2 ^ s = N' * 2 ^ s') :
    rndV p t h S mode e neg N false = rndV p t h S mode e' neg N' false ∧ rndF p t h mode e neg N false = rndF p t h mode e' neg N' false := by
  have hN' : 0 < N' := by
    rcases Nat.eq_zero_or_pos N' with h0 | h0
    · subst h0
      have : 0 < N * 2 ^ s := Nat.mul_pos hN (Nat.pow_pos (by decide))
      omega
    · exact h0
  have a := rnd_scale (p := p) (t := t) (h := h) (S := S) (mode := mode) (e := e) neg (N := N) (s := s) hN
  have b := rnd_scale (p := p) (t := t) (h := h) (S := S) (mode := mode) (e := e') neg (N := N') (s := s') hN'
  rw [← he, ← hv] at b
  exact ⟨a.1.symm.trans b.1, a.2.symm.trans b.2⟩

end Go.Proofs.YtcpnmcfpnhokgaaDoor

/- Sums of wide numbers: what a sum with its lost bits kept as one is rounded to. -/
namespace Go.Proofs.YtcpnmcfpnhokgaaDoor
open Go.RowKit

theorem jam_le {Q r : Nat} : jam Q r ≤ Q + 1 := by unfold jam; split <;> omega

theorem jam_ge {Q r : Nat} : Q ≤ jam Q r := by unfold jam; split <;> omega

theorem jam_none {Q : Nat} : jam Q 0 = Q := by unfold jam; simp

/-- A number lifted, and sunk by one: one bit is free, the last is 0. -/
theorem lift_half {N : Nat} (h0 : 0 < N) (h1 : N < 85070591730234615865843651857942052864) :
    85070591730234615865843651857942052864 ≤ N * 2 ^ (127 - blen N) ∧ N * 2 ^ (127 - blen N) < 170141183460469231731687303715884105728 ∧ N * 2 ^ (127 - blen N) % 2 = 0 ∧
      jam (N * 2 ^ (128 - blen N) / 2 ^ 1) (N * 2 ^ (128 - blen N) % 2 ^ 1) = N * 2 ^ (127 - blen N) ∧ blen N ≤ 126 := by
  have hb : blen N ≤ 126 := blen_le (N := N) (L := 126) h1
  obtain ⟨b0, b1, b2⟩ := blen_pos h0
  have lo := Nat.mul_le_mul_right (2 ^ (127 - blen N)) b1
  rw [← Nat.pow_add, show blen N - 1 + (127 - blen N) = 126 by omega] at lo
  have hi := Nat.mul_lt_mul_of_pos_right b2 (Nat.pow_pos (n := 127 - blen N) (show 0 < 2 by decide))
  rw [← Nat.pow_add, show blen N + (127 - blen N) = 127 by omega] at hi
  have e1 : N * 2 ^ (127 - blen N) = N * 2 ^ (126 - blen N) * 2 := by
    rw [show 127 - blen N = 126 - blen N + 1 by omega, Nat.pow_succ]; ac_rfl
  have e2 : N * 2 ^ (128 - blen N) = N * 2 ^ (127 - blen N) * 2 := by
    rw [show 128 - blen N = 127 - blen N + 1 by omega, Nat.pow_succ]; ac_rfl
  refine ⟨lo, hi, by omega, ?_, hb⟩
  rw [e2, Nat.pow_one, Nat.mul_div_cancel _ (by decide), Nat.mul_mod_left, jam_none]

theorem core_add {p t h S mode e : Int} (neg : Bool) {X Y k : Nat} (hp1 : p ≤ 53) (hX0 : 85070591730234615865843651857942052864 ≤ X) (hX1 : X < 170141183460469231731687303715884105728) (hXe : X % 2 = 0) (hY1 : Y < 170141183460469231731687303715884105728) :
    X + jam (Y / 2 ^ k) (Y % 2 ^ k) < 340282366920938463463374607431768211456 ∧
      rndV p t h S mode (e + k) neg (X + jam (Y / 2 ^ k) (Y % 2 ^ k)) false = rndV p t h S mode e neg (X * 2 ^ k + Y) false ∧
      rndF p t h mode (e + k) neg (X + jam (Y / 2 ^ k) (Y % 2 ^ k)) false = rndF p t h mode e neg (X * 2 ^ k + Y) false := by
  have hC : 0 < 2 ^ k := Nat.pow_pos (by decide)
  have hd : Y / 2 ^ k ≤ Y := Nat.div_le_self _ _
  have hj := jam_le (Q := Y / 2 ^ k) (r := Y % 2 ^ k)
  have hjX := jam_add (X := X) (Y := Y / 2 ^ k) (r := Y % 2 ^ k) (C := 2 ^ k) hXe (Nat.mod_lt _ hC)
  rw [Nat.div_add_mod'] at hjX
  have hQ : 2 ^ 54 ≤ (X * 2 ^ k + Y) / 2 ^ k := by
    rw [Nat.le_div_iff_mul_le hC]
    have := Nat.mul_le_mul_right (2 ^ k) (Nat.le_trans (show 2 ^ 54 ≤ 85070591730234615865843651857942052864 by decide) hX0)
    omega
  have r := rnd_jam (p := p) (t := t) (h := h) (S := S) (mode := mode) (e := e) neg hp1 hQ
  rw [hjX] at r
  exact ⟨by omega, r.1, r.2⟩

theorem core_sub {p t h S mode e : Int} (neg : Bool) {X Y k : Nat} (hp1 : p ≤ 53) (hX0 : 85070591730234615865843651857942052864 ≤ X) (hX1 : X < 170141183460469231731687303715884105728) (hXe : X % 2 = 0) (hY0 : 85070591730234615865843651857942052864 ≤ Y) (hY1 : Y < 170141183460469231731687303715884105728) (hYe : Y % 2 = 0) :
    jam (Y / 2 ^ k) (Y % 2 ^ k) < 170141183460469231731687303715884105728 ∧ (jam (Y / 2 ^ k) (Y % 2 ^ k) < X ↔ Y < X * 2 ^ k) ∧ (X < jam (Y / 2 ^ k) (Y % 2 ^ k) ↔ X * 2 ^ k < Y) ∧
      (Y < X * 2 ^ k → rndV p t h S mode (e + k) neg (X - jam (Y / 2 ^ k) (Y % 2 ^ k)) false = rndV p t h S mode e neg (X * 2 ^ k - Y) false ∧
      rndF p t h mode (e + k) neg (X - jam (Y / 2 ^ k) (Y % 2 ^ k)) false = rndF p t h mode e neg (X * 2 ^ k - Y) false) ∧
      (X * 2 ^ k < Y → rndV p t h S mode (e + k) neg (jam (Y / 2 ^ k) (Y % 2 ^ k) - X) false = rndV p t h S mode e neg (Y - X * 2 ^ k) false ∧
      rndF p t h mode (e + k) neg (jam (Y / 2 ^ k) (Y % 2 ^ k) - X) false = rndF p t h mode e neg (Y - X * 2 ^ k) false) := by
  have hC : 0 < 2 ^ k := Nat.pow_pos (by decide)
  have hj := jam_le (Q := Y / 2 ^ k) (r := Y % 2 ^ k)
  by_cases hk : k ≤ 1
  · have hm : Y % 2 ^ k = 0 := by
      match k, hk with
      | 0, _ => simp [Nat.mod_one]
      | 1, _ => simpa using hYe
    have hY : Y / 2 ^ k * 2 ^ k = Y := by
      have := Nat.div_add_mod' Y (2 ^ k)
      omega
    have hd : Y / 2 ^ k ≤ Y := Nat.div_le_self _ _
    rw [hm, jam_none]
    generalize Y / 2 ^ k = J at *
    subst hY
    have sc := fun (N : Nat) (hN : 0 < N) => rnd_scale (p := p) (t := t) (h := h) (S := S) (mode := mode) (e := e + k) neg (N := N) (s := k) hN
    simp only [Int.add_sub_cancel] at sc
    refine ⟨by omega, (Nat.mul_lt_mul_right hC).symm, (Nat.mul_lt_mul_right hC).symm, fun hlt => ?_, fun hlt => ?_⟩
    · have := (Nat.mul_lt_mul_right hC).1 hlt
      rw [← Nat.mul_sub_right_distrib]
      have s := sc (X - J) (by omega)
      exact ⟨s.1.symm, s.2.symm⟩
    · have := (Nat.mul_lt_mul_right hC).1 hlt
      rw [← Nat.mul_sub_right_distrib]
      have s := sc (J - X) (by omega)
      exact ⟨s.1.symm, s.2.symm⟩
  · have h4 : 4 ≤ 2 ^ k := by
      have := Nat.pow_le_pow_right (n := 2) (by decide) (show 2 ≤ k by omega)
      omega
    have hXC := Nat.mul_le_mul_left X h4
    have hd : Y / 2 ^ k ≤ Y / 4 := Nat.div_le_div_left h4 (by decide)
    have hlt : Y < X * 2 ^ k := by omega
    have hJ : jam (Y / 2 ^ k) (Y % 2 ^ k) < X := by omega
    refine ⟨by omega, ⟨fun _ => hlt, fun _ => hJ⟩, ⟨fun hh => by omega, fun hh => by omega⟩, fun _ => ?_, fun hh => by omega⟩
    have hjX := jam_sub (X := X) (Y := Y / 2 ^ k) (r := Y % 2 ^ k) (C := 2 ^ k) hXe (Nat.mod_lt _ hC) (by rw [Nat.div_add_mod']; omega)
    rw [Nat.div_add_mod'] at hjX
    have hQ : 2 ^ 54 ≤ (X * 2 ^ k - Y) / 2 ^ k := by
      rw [Nat.le_div_iff_mul_le hC]
      have h1 := Nat.mul_le_mul_right (2 ^ k) hX0
      have h2 : Y < 42535295865117307932921825928971026432 * 2 ^ k := by
        have := Nat.mul_le_mul_left 42535295865117307932921825928971026432 h4
        omega
      omega
    have r := rnd_jam (p := p) (t := t) (h := h) (S := S) (mode := mode) (e := e) neg hp1 hQ
    rw [hjX] at r
    exact r

end Go.Proofs.YtcpnmcfpnhokgaaDoor
