/- The field of 256. -/
import Derived.Test.YtpjpkkgcnnmljaaX0
namespace Go.Proofs.Ytpjpkkgcnnmljaa
open Go.RowKit

theorem xor_lt8 {a b : Nat} (ha : a < 256) (hb : b < 256) : a ^^^ b < 256 := Nat.xor_lt_two_pow (n := 8) ha hb

/-- A number doubled in the field. -/
def gdb (x : Nat) : Nat := if 128 ≤ x then (2 * x) ^^^ 285 else 2 * x

theorem gdb_fin : ∀ x : Fin 256, gdb x.val < 256 := by decide +kernel
theorem gdb_lt {x : Nat} (h : x < 256) : gdb x < 256 := gdb_fin ⟨x, h⟩

/-- A number's bit, as a factor. -/
def gsel (t : Bool) (a : Nat) : Nat := if t then a else 0

/-- The product, the k highest bits of b taken. -/
def gmk (a b : Nat) : Nat → Nat
  | 0 => 0
  | k + 1 => gdb (gmk a b k) ^^^ gsel (b.testBit (7 - k)) a
/-- The product in the field. -/
def gm (a b : Nat) : Nat := gmk a b 8

theorem gsel_lt {t : Bool} {a : Nat} (h : a < 256) : gsel t a < 256 := by unfold gsel; split <;> omega
theorem gmk_lt {a : Nat} (h : a < 256) (b k : Nat) : gmk a b k < 256 := by
  induction k with
  | zero => show 0 < 256; omega
  | succ k ih => exact xor_lt8 (gdb_lt ih) (gsel_lt h)
theorem gm_lt {a : Nat} (h : a < 256) (b : Nat) : gm a b < 256 := gmk_lt h b 8

theorem xor_swap (a b c d : Nat) : (a ^^^ b) ^^^ (c ^^^ d) = (a ^^^ c) ^^^ (b ^^^ d) := by
  rw [Nat.xor_assoc, ← Nat.xor_assoc b c d, Nat.xor_comm b c, Nat.xor_assoc c b d, ← Nat.xor_assoc]

/-- What is made of a byte bit by bit. -/
structure Lin (f : Nat → Nat) : Prop where
  add : ∀ x y, x < 256 → y < 256 → f (x ^^^ y) = f x ^^^ f y

theorem Lin.zero {f : Nat → Nat} (h : Lin f) : f 0 = 0 := by
  have := h.add 0 0 (by omega) (by omega)
  rw [Nat.xor_self, Nat.xor_self] at this
  exact this

theorem low_high (x k : Nat) (h : x < 2 ^ (k + 1)) : x = (x % 2 ^ k) ^^^ gsel (x.testBit k) (2 ^ k) := by
  apply Nat.eq_of_testBit_eq
  intro i
  rw [Nat.testBit_xor, Nat.testBit_mod_two_pow]
  by_cases hi : i < k
  · have : (gsel (x.testBit k) (2 ^ k)).testBit i = false := by
      unfold gsel
      split
      · rw [Nat.testBit_two_pow]; simp; omega
      · simp
    rw [this]
    simp [hi]
  · by_cases hk : i = k
    · subst hk
      have : (gsel (x.testBit i) (2 ^ i)).testBit i = x.testBit i := by
        unfold gsel
        cases x.testBit i
        · simp
        · simp
      rw [this]
      simp
    · have h1 : x.testBit i = false := Nat.testBit_lt_two_pow (Nat.lt_of_lt_of_le h (Nat.pow_le_pow_right (by omega) (by omega)))
      have : (gsel (x.testBit k) (2 ^ k)).testBit i = false := by
        unfold gsel
        split
        · rw [Nat.testBit_two_pow]; simp; omega
        · simp
      rw [this, h1]
      simp [hi]

theorem lin_low {f g : Nat → Nat} (hf : Lin f) (hg : Lin g) (h : ∀ i, i < 8 → f (2 ^ i) = g (2 ^ i)) : ∀ k, k ≤ 8 → ∀ x, x < 2 ^ k → f x = g x := by
  intro k
  induction k with
  | zero =>
    intro _ x hx
    obtain rfl : x = 0 := by simpa using hx
    rw [hf.zero, hg.zero]
  | succ k ih =>
    intro hk x hx
    have h2 : (2 : Nat) ^ k ≤ 128 := Nat.le_trans (Nat.pow_le_pow_right (by omega) (show k ≤ 7 by omega)) (by decide)
    have hp := Nat.mod_lt x (Nat.two_pow_pos k)
    have hs : gsel (x.testBit k) (2 ^ k) < 256 := by unfold gsel; split <;> omega
    have e := low_high x k hx
    rw [e, hf.add _ _ (by omega) hs, hg.add _ _ (by omega) hs, ih (by omega) _ hp]
    congr 1
    unfold gsel
    split
    · exact h k (by omega)
    · rw [hf.zero, hg.zero]

/-- Two of them that agree at the eight bits agree. -/
theorem lin_eq {f g : Nat → Nat} (hf : Lin f) (hg : Lin g) (h : ∀ i, i < 8 → f (2 ^ i) = g (2 ^ i)) {x : Nat} (hx : x < 256) : f x = g x := lin_low hf hg h 8 (Nat.le_refl _) x hx

theorem gdb_lin : Lin gdb := by
  have h : ∀ x y : Fin 256, gdb (x.val ^^^ y.val) = gdb x.val ^^^ gdb y.val := by decide +kernel
  exact ⟨fun x y hx hy => h ⟨x, hx⟩ ⟨y, hy⟩⟩

theorem gsel_xor (t : Bool) (a b : Nat) : gsel t (a ^^^ b) = gsel t a ^^^ gsel t b := by cases t <;> simp [gsel]
theorem gsel_bne (s t : Bool) (a : Nat) : gsel (s ^^ t) a = gsel s a ^^^ gsel t a := by cases s <;> cases t <;> simp [gsel]

theorem gmk_left (b k : Nat) : Lin (fun a => gmk a b k) := by
  induction k with
  | zero => exact ⟨fun x y _ _ => by show 0 = 0 ^^^ 0; rfl⟩
  | succ k ih =>
    refine ⟨fun x y hx hy => ?_⟩
    show gdb (gmk (x ^^^ y) b k) ^^^ gsel _ (x ^^^ y) = (gdb (gmk x b k) ^^^ gsel _ x) ^^^ (gdb (gmk y b k) ^^^ gsel _ y)
    rw [ih.add x y hx hy, gdb_lin.add _ _ (gmk_lt hx b k) (gmk_lt hy b k), gsel_xor, xor_swap]

theorem gmk_right {a : Nat} (ha : a < 256) (k : Nat) : Lin (fun b => gmk a b k) := by
  induction k with
  | zero => exact ⟨fun x y _ _ => by show 0 = 0 ^^^ 0; rfl⟩
  | succ k ih =>
    refine ⟨fun x y hx hy => ?_⟩
    show gdb (gmk a (x ^^^ y) k) ^^^ gsel ((x ^^^ y).testBit (7 - k)) a = (gdb (gmk a x k) ^^^ gsel (x.testBit (7 - k)) a) ^^^ (gdb (gmk a y k) ^^^ gsel (y.testBit (7 - k)) a)
    rw [ih.add x y hx hy, gdb_lin.add _ _ (gmk_lt ha x k) (gmk_lt ha y k), Nat.testBit_xor, gsel_bne, xor_swap]

theorem gm_left (b : Nat) : Lin (fun a => gm a b) := gmk_left b 8
theorem gm_right {a : Nat} (ha : a < 256) : Lin (fun b => gm a b) := gmk_right ha 8

theorem gm_add_l {x y : Nat} (b : Nat) (hx : x < 256) (hy : y < 256) : gm (x ^^^ y) b = gm x b ^^^ gm y b := (gm_left b).add x y hx hy
theorem gm_add_r {a x y : Nat} (ha : a < 256) (hx : x < 256) (hy : y < 256) : gm a (x ^^^ y) = gm a x ^^^ gm a y := (gm_right ha).add x y hx hy
theorem gm_zero_l (b : Nat) : gm 0 b = 0 := (gm_left b).zero
theorem gm_zero_r {a : Nat} (ha : a < 256) : gm a 0 = 0 := (gm_right ha).zero

theorem pow_lt8 {i : Nat} (h : i < 8) : 2 ^ i < 256 := Nat.lt_of_lt_of_le (Nat.pow_lt_pow_right (by omega) h) (by decide)

theorem comm_fin : ∀ i j : Fin 8, gm (2 ^ i.val) (2 ^ j.val) = gm (2 ^ j.val) (2 ^ i.val) := by decide +kernel
theorem assoc_fin : ∀ i j k : Fin 8, gm (gm (2 ^ i.val) (2 ^ j.val)) (2 ^ k.val) = gm (2 ^ i.val) (gm (2 ^ j.val) (2 ^ k.val)) := by decide +kernel
theorem one_fin : ∀ a : Fin 256, gm a.val 1 = a.val := by decide +kernel

/-- Products may be exchanged. -/
theorem gm_comm {a b : Nat} (ha : a < 256) (hb : b < 256) : gm a b = gm b a := by
  refine lin_eq (f := fun b => gm a b) (g := fun b => gm b a) (gm_right ha) (gm_left a) (fun j hj => ?_) hb
  exact lin_eq (f := fun a => gm a (2 ^ j)) (g := fun a => gm (2 ^ j) a) (gm_left _) (gm_right (pow_lt8 hj)) (fun i hi => comm_fin ⟨i, hi⟩ ⟨j, hj⟩) ha

theorem Lin.comp {f g : Nat → Nat} (hg : Lin g) (hf : Lin f) (hb : ∀ x, x < 256 → f x < 256) : Lin (fun x => g (f x)) :=
  ⟨fun x y hx hy => by show g (f (x ^^^ y)) = _; rw [hf.add x y hx hy, hg.add _ _ (hb x hx) (hb y hy)]⟩

/-- Products may be put together. -/
theorem gm_assoc {a b c : Nat} (ha : a < 256) (hb : b < 256) (hc : c < 256) : gm (gm a b) c = gm a (gm b c) := by
  refine lin_eq (f := fun c => gm (gm a b) c) (g := fun c => gm a (gm b c)) (gm_right (gm_lt ha b)) ((gm_right ha).comp (gm_right hb) (fun x _ => gm_lt hb x)) (fun k hk => ?_) hc
  refine lin_eq (f := fun b => gm (gm a b) (2 ^ k)) (g := fun b => gm a (gm b (2 ^ k))) ((gm_left _).comp (gm_right ha) (fun x _ => gm_lt ha x)) ((gm_right ha).comp (gm_left _) (fun x hx => gm_lt hx _)) (fun j hj => ?_) hb
  exact lin_eq (f := fun a => gm (gm a (2 ^ j)) (2 ^ k)) (g := fun a => gm a (gm (2 ^ j) (2 ^ k))) ((gm_left _).comp (gm_left _) (fun x hx => gm_lt hx _)) (gm_left _) (fun i hi => assoc_fin ⟨i, hi⟩ ⟨j, hj⟩ ⟨k, hk⟩) ha

theorem gm_one_r {a : Nat} (ha : a < 256) : gm a 1 = a := one_fin ⟨a, ha⟩
theorem gm_one_l {a : Nat} (ha : a < 256) : gm 1 a = a := by rw [gm_comm (by omega) ha, gm_one_r ha]

/-- The powers of 2. -/
def gpw : Nat → Nat
  | 0 => 1
  | k + 1 => gdb (gpw k)
theorem gpw_lt (k : Nat) : gpw k < 256 := by
  induction k with
  | zero => show 1 < 256; omega
  | succ k ih => exact gdb_lt ih
theorem gdb_two : ∀ x : Fin 256, gdb x.val = gm x.val 2 := by decide +kernel
theorem gpw_succ (k : Nat) : gpw (k + 1) = gm (gpw k) 2 := gdb_two ⟨gpw k, gpw_lt k⟩
theorem gpw_add (i j : Nat) : gpw (i + j) = gm (gpw i) (gpw j) := by
  induction j with
  | zero => exact (gm_one_r (gpw_lt i)).symm
  | succ j ih => rw [← Nat.add_assoc, gpw_succ, ih, gpw_succ, gm_assoc (gpw_lt i) (gpw_lt j) (by omega)]
theorem gpw_255 : gpw 255 = 1 := by decide +kernel
theorem gpw_mod (k : Nat) : gpw (k % 255) = gpw k := by
  have h : ∀ q r, gpw (255 * q + r) = gpw r := by
    intro q
    induction q with
    | zero => intro r; rw [Nat.mul_zero, Nat.zero_add]
    | succ q ih => intro r; rw [Nat.mul_succ, Nat.add_assoc, ih, gpw_add, gpw_255, gm_one_l (gpw_lt r)]
  have := h (k / 255) (k % 255)
  rw [Nat.div_add_mod] at this
  exact this.symm

/-- The inverses. -/
theorem inv_fin : ∀ a : Fin 256, a.val ≠ 0 → ∃ k : Fin 255, gpw k.val = a.val := by decide +kernel
theorem log_of {a : Nat} (ha : a < 256) (h0 : a ≠ 0) : ∃ k, k < 255 ∧ gpw k = a := by
  obtain ⟨k, hk⟩ := inv_fin ⟨a, ha⟩ h0
  exact ⟨k.val, k.isLt, hk⟩
theorem inv_of {a : Nat} (ha : a < 256) (h0 : a ≠ 0) : ∃ b, b < 256 ∧ gm a b = 1 := by
  obtain ⟨k, hk, rfl⟩ := log_of ha h0
  refine ⟨gpw (255 - k), gpw_lt _, ?_⟩
  rw [← gpw_add, show k + (255 - k) = 255 by omega, gpw_255]
/-- No product of numbers other than 0 is 0. -/
theorem gm_ne {a b : Nat} (ha : a < 256) (hb : b < 256) (h : gm a b = 0) (h0 : a ≠ 0) : b = 0 := by
  obtain ⟨c, hc, hac⟩ := inv_of ha h0
  have e : gm c (gm a b) = b := by rw [← gm_assoc hc ha hb, gm_comm hc ha, hac, gm_one_l hb]
  rw [h, gm_zero_r hc] at e
  exact e.symm
theorem gpw_ne (k : Nat) : gpw k ≠ 0 := by
  intro h
  have h1 : gm (gpw (k % 255)) (gpw (255 - k % 255)) = 1 := by
    rw [← gpw_add, show k % 255 + (255 - k % 255) = 255 by omega, gpw_255]
  rw [gpw_mod, h, gm_zero_l] at h1
  cases h1
theorem gpw_one : ∀ k : Fin 254, gpw (k.val + 1) ≠ 1 := by decide +kernel
/-- Powers below 255 are all different. -/
theorem gpw_inj {i j : Nat} (hi : i < 255) (hj : j < 255) (h : gpw i = gpw j) : i = j := by
  have key : ∀ a b, a < b → b < 255 → gpw a = gpw b → False := by
    intro a b hab hb e
    have h1 : gpw (b + (255 - a)) = gpw (a + (255 - a)) := by rw [gpw_add, gpw_add, e]
    rw [show a + (255 - a) = 255 by omega, gpw_255, show b + (255 - a) = 255 + (b - a) by omega, gpw_add, gpw_255, gm_one_l (gpw_lt _)] at h1
    exact gpw_one ⟨b - a - 1, by omega⟩ (by show gpw (b - a - 1 + 1) = 1; rw [show b - a - 1 + 1 = b - a by omega]; exact h1)
  rcases Nat.lt_trichotomy i j with h1 | h1 | h1
  · exact (key i j h1 hj h).elim
  · exact h1
  · exact (key j i h1 hi h.symm).elim
end Go.Proofs.Ytpjpkkgcnnmljaa
