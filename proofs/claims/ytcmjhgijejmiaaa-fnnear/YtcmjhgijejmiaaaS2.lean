/- Single32: what it gives, and that it changes nothing again. -/
import Derived.Test.YtcmjhgijejmiaaaS1
import Derived.Test.YtcmjhgijejmiaaaG2
namespace Go.Proofs.Ytcmjhgijejmiaaa
open Go.RowKit

/-- A single, widened; all NaNs are one. -/
def wid (r : Nat) : Option Nat := if (Ieee.single.read r).isNaN then none else some (Ieee.double.write (Ieee.single.read r))

/-- What a float64 becomes as a float32: a NaN a NaN, an infinity it, a number the nearest one where that is finite. -/
structure To32 (x r : Nat) : Prop where
  nan : (Ieee.double.read x).isNaN = true → (Ieee.single.read r).isNaN = true
  inf : ∀ s, Ieee.double.read x = .infinity s → r = Ieee.single.word s Ieee.single.infRung
  num : ∀ s m e, Ieee.double.read x = .number s m e → (Ieee.single.read (Ieee.single.nearest s m e)).isInfinity = false → r = Ieee.single.nearest s m e

theorem nan32 (t : Nat) : (Ieee.single.read ((t % 2) * 2 ^ 31 + 0x7f800000 + 1 + (t / 2) % (2 ^ 23 - 1))).isNaN = true := by
  have hv : (t / 2) % (2 ^ 23 - 1) < 8388607 := Nat.mod_lt _ (by decide)
  have ht : t % 2 < 2 := Nat.mod_lt _ (by decide)
  generalize (t / 2) % (2 ^ 23 - 1) = v at *
  generalize t % 2 = b at *
  unfold Ieee.Format.read
  simp only [e_signS, e_binS, e_infS, e_leastS]
  have a : (b * 2 ^ 31 + 0x7f800000 + 1 + v) % 2147483648 = 2139095040 + 1 + v := by omega
  rw [a, if_neg (by omega), if_neg (by omega), if_neg (by omega)]
  rfl

theorem nan64 (t : Nat) : (Ieee.double.read ((t % 2) * 2 ^ 63 + 0x7ff0000000000000 + 1 + (t / 2) % (2 ^ 52 - 1))).isNaN = true := by
  have hv : (t / 2) % (2 ^ 52 - 1) < 4503599627370495 := Nat.mod_lt _ (by decide)
  have ht : t % 2 < 2 := Nat.mod_lt _ (by decide)
  generalize (t / 2) % (2 ^ 52 - 1) = v at *
  generalize t % 2 = b at *
  unfold Ieee.Format.read
  simp only [e_sign, e_bin, e_inf, e_least]
  have a : (b * 2 ^ 63 + 0x7ff0000000000000 + 1 + v) % 9223372036854775808 = 9218868437227405312 + 1 + v := by omega
  rw [a, if_neg (by omega), if_neg (by omega), if_neg (by omega)]
  rfl

theorem conv32 (x : Nat) (w : World) : ∃ r w', (convert 24 35 (.float .f64 x)).run Try.prog w = .ok (.float .f32 r) w' ∧ To32 x r ∧ Below w.heap.size w w' := by
  have ne : ¬ FloatKind.f64 = FloatKind.f32 := by decide
  cases hx : Ieee.double.read x with
  | nan s t =>
    have hd : FloatKind.f64.decode x = .nan s t := hx
    refine ⟨_, w.drew, by
      simp [convert, run_underlying Try.underlying24, run_underlying Try.underlying35, Conv.floatToFloat, hd, go_sem, Question.forced]
      rfl, ⟨fun _ => nan32 _, fun s h => (by rw [hx] at h; cases h), fun s m e h => (by rw [hx] at h; cases h)⟩, (Below.refl _ _).drew⟩
  | infinity s =>
    have hd : FloatKind.f64.decode x = .infinity s := hx
    refine ⟨_, w, by
      simp [convert, run_underlying Try.underlying24, run_underlying Try.underlying35, Conv.floatToFloat, hd]
      rfl, ⟨fun h => (by rw [hx] at h; cases h), fun s h => (by rw [hx] at h; cases h; rfl), fun s m e h => (by rw [hx] at h; cases h)⟩, Below.refl _ _⟩
  | number s m e =>
    have hd : FloatKind.f64.decode x = .number s m e := hx
    cases hi : (FloatKind.f32.decode (FloatKind.f32.encode (.number s m e))).isInfinity with
    | true =>
      refine ⟨_, w.drew, by
        simp [convert, run_underlying Try.underlying24, run_underlying Try.underlying35, Conv.floatToFloat, hd, hi, go_sem, Question.forced]
        rfl, ⟨fun h => (by rw [hx] at h; cases h), fun s h => (by rw [hx] at h; cases h), fun s m e h h2 => ?_⟩, (Below.refl _ _).drew⟩
      rw [hx] at h
      cases h
      have : (Ieee.single.read (Ieee.single.nearest s m e)).isInfinity = true := hi
      rw [h2] at this
      cases this
    | false =>
      refine ⟨_, w, by
        simp [convert, run_underlying Try.underlying24, run_underlying Try.underlying35, Conv.floatToFloat, hd, hi]
        rfl, ⟨fun h => (by rw [hx] at h; cases h), fun s h => (by rw [hx] at h; cases h), fun s m e h _ => (by rw [hx] at h; cases h; rfl)⟩, Below.refl _ _⟩

/-- What a single is read as. -/
theorem read_single (r : Nat) : (Ieee.single.read r).isNaN = true ∨ (∃ s, Ieee.single.read r = .infinity s) ∨ (∃ (s : Bool) (m : Nat) (e : Int), Ieee.single.read r = .number s m e ∧ m < 16777216 ∧ -149 ≤ e ∧ e ≤ 104) := by
  unfold Ieee.Format.read
  simp only [e_signS, e_binS, e_infS, e_leastS]
  generalize (r / 2147483648 % 2 == 1) = s
  generalize r % 2147483648 = k
  by_cases h1 : k < 8388608
  · rw [if_pos h1]
    exact .inr (.inr ⟨s, k, -149, rfl, by omega, by omega, by omega⟩)
  · rw [if_neg h1]
    by_cases h2 : k < 2139095040
    · rw [if_pos h2]
      exact .inr (.inr ⟨s, _, _, rfl, by omega, by omega, by omega⟩)
    · rw [if_neg h2]
      by_cases h3 : k = 2139095040
      · rw [if_pos h3]
        exact .inr (.inl ⟨s, rfl⟩)
      · rw [if_neg h3]
        exact .inl rfl

theorem conv64 (r : Nat) (w : World) : ∃ z w', (convert 35 24 (.float .f32 r)).run Try.prog w = .ok (.float .f64 z) w' ∧ cn z = wid r ∧ Below w.heap.size w w' := by
  rcases read_single r with h | ⟨s, h⟩ | ⟨s, m, e, h, h1, h2, h3⟩
  · cases hr : Ieee.single.read r with
    | nan s t =>
      have hd : FloatKind.f32.decode r = .nan s t := hr
      refine ⟨_, w.drew, by
        simp [convert, run_underlying Try.underlying24, run_underlying Try.underlying35, Conv.floatToFloat, hd, go_sem, Question.forced]
        rfl, ?_, (Below.refl _ _).drew⟩
      exact (cn_none (nan64 _)).trans (by simp [wid, h])
    | infinity s => rw [hr] at h; cases h
    | number s m e => rw [hr] at h; cases h
  · have hd : FloatKind.f32.decode r = .infinity s := h
    refine ⟨_, w, by
      simp [convert, run_underlying Try.underlying24, run_underlying Try.underlying35, Conv.floatToFloat, hd]
      rfl, ?_, Below.refl _ _⟩
    simp only [wid, h]
    exact cn_some (write_not_nan _ rfl)
  · have hd : FloatKind.f32.decode r = .number s m e := h
    have hi : (FloatKind.f64.decode (FloatKind.f64.encode (.number s m e))).isInfinity = false := by
      show (Ieee.double.read (Ieee.double.nearest s m e)).isInfinity = false
      by_cases h0 : m = 0
      · subst h0
        have : Ieee.double.nearest s 0 e = Ieee.double.word s 0 := by simp [Ieee.Format.nearest]
        rw [this, read_low s 0 (by omega)]
        rfl
      · have hl : m.log2 ≤ 23 := by
          have := (Nat.log2_lt h0).2 (show m < 2 ^ 24 by omega)
          omega
        obtain ⟨j, _, _, hj⟩ := read_nearest s m e h0 (by omega) (by omega) (by omega)
        rw [hj]
        rfl
    refine ⟨_, w, by
      simp [convert, run_underlying Try.underlying24, run_underlying Try.underlying35, Conv.floatToFloat, hd, hi]
      rfl, ?_, Below.refl _ _⟩
    simp only [wid, h]
    exact cn_some (write_not_nan _ rfl)

/-- A widened single narrowed and widened again. -/
theorem wid_again {z r r2 : Nat} (h : cn z = wid r) (ht : To32 z r2) : wid r2 = wid r := by
  have some_eq : ∀ y, cn z = some y → z = y := by
    intro y hy
    unfold cn at hy
    split at hy
    · cases hy
    · exact Option.some.inj hy
  rcases read_single r with hn | ⟨s, hr⟩ | ⟨s, m, e, hr, h1, h2, h3⟩
  · have hw : wid r = none := by simp [wid, hn]
    rw [hw] at h ⊢
    have : (Ieee.double.read z).isNaN = true := by
      cases hh : (Ieee.double.read z).isNaN with
      | true => rfl
      | false => rw [cn_some hh] at h; cases h
    simp [wid, ht.nan this]
  · have hw : wid r = some (Ieee.double.write (.infinity s)) := by simp [wid, hr, Ieee.Datum.isNaN]
    rw [hw] at h ⊢
    have hz := some_eq _ h
    have hrz : Ieee.double.read z = .infinity s := by rw [hz]; cases s <;> decide +kernel
    have h2 := ht.inf s hrz
    have hr2 : Ieee.single.read r2 = .infinity s := by rw [h2]; cases s <;> decide +kernel
    simp [wid, hr2, Ieee.Datum.isNaN]
  · have hw : wid r = some (Ieee.double.nearest s m e) := by simp [wid, hr, Ieee.Datum.isNaN, Ieee.Format.write]
    rw [hw] at h ⊢
    have hz := some_eq _ h
    by_cases h0 : m = 0
    · subst h0
      have z0 : ∀ p, Ieee.double.nearest s 0 p = Ieee.double.word s 0 := fun p => by simp [Ieee.Format.nearest]
      have s0 : ∀ p, Ieee.single.nearest s 0 p = Ieee.single.word s 0 := fun p => by simp [Ieee.Format.nearest]
      rw [z0] at hz
      have hrz := read_low s 0 (by omega)
      rw [← hz] at hrz
      have hs0 := read_lowS s 0 (by omega)
      have h4 := ht.num s 0 (-1074) hrz (by rw [s0, hs0]; rfl)
      rw [s0] at h4
      rw [z0]
      simp [wid, h4, hs0, Ieee.Datum.isNaN, Ieee.Format.write, z0]
    · have hl : m.log2 ≤ 23 := by
        have := (Nat.log2_lt h0).2 (show m < 2 ^ 24 by omega)
        omega
      obtain ⟨j, _, _, hj⟩ := read_nearest s m e h0 (by omega) (by omega) (by omega)
      rw [← hz] at hj
      obtain ⟨i, _, _, hi⟩ := read_nearestS s m e h0 (by omega) (by omega) (by omega)
      have h4 := ht.num _ _ _ hj (by rw [nearest_scaleS, hi]; rfl)
      rw [nearest_scaleS] at h4
      simp [wid, h4, hi, Ieee.Datum.isNaN, Ieee.Format.write, nearest_scale]

set_option maxHeartbeats 1000000 in
theorem single_any (x : Nat) (w : World) : Calls Try.prog 9 #[.float .f64 x] w fun e w' => ∃ z r, e = .returned (.float .f64 z) ∧ cn z = wid r ∧ To32 x r ∧ Below w.heap.size w w' := by
  obtain ⟨r, w1, h1, t1, b1⟩ := conv32 x w
  obtain ⟨z, w2, h2, c2, b2⟩ := conv64 r w1
  have C2 : Hid _ := c2
  have T1 : Hid _ := t1
  clear c2 t1
  go_enter Try.func9, Try.ntmps9
  go_wp2
  go_ret
  exact ⟨z, r, rfl, C2.out, T1.out, b1.trans (b2.mono b1.size)⟩
end Go.Proofs.Ytcmjhgijejmiaaa
