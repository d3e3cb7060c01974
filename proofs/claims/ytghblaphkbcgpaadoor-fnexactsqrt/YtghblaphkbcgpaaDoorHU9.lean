/- What both sides' Unpack tells of bits of a form, told whole. -/
import Derived.Test.YtghblaphkbcgpaaDoorV1
import Derived.Test.YtghblaphkbcgpaaDoorHS2
namespace Go.Proofs.YtghblaphkbcgpaaDoor
open Go.RowKit

/-- What both sides' Unpack tells of the bits x of a form, and how bits and number hang together. -/
structure Up (f p t S D h x K E : Int) (M : Nat) (n : Bool) : Prop where
  spec : ∀ w, Calls Tryd.prog 8 #[.int .i64 f, .int .u64 x] w fun e w' => e = .returned (.agg #[.int .i64 K, .bool n, .int .i64 E, .int .u64 (M : Int)]) ∧ Below w.heap.size w w'
  impl : ∀ w, Shp w → Brj w → Calls Tryd.prog 17 #[.int .i64 f, .int .u64 x] w fun e w' => e = .returned (.agg #[.int .i64 K, .bool n, .int .i64 E, .int .u64 (M : Int)]) ∧ Below w.heap.size w w'
  x0 : 0 ≤ x
  xD : x < D
  k : K = 0 ∨ K = 1 ∨ K = 2 ∨ K = 3
  fin : K = 1 → 0 < M ∧ M < 9007199254740992 ∧ -1074 ≤ E ∧ E ≤ 2000
  none : K ≠ 1 → M = 0 ∧ E = 0
  nan : K = 3 ↔ (2 * t + 1) * h < sz S x
  sgn : K ≠ 3 → x = sz S x + (if n then S else 0)
  bits : K = 1 → ∃ (m st : Int) (k : Nat), Tz m M k ∧ (M : Int) % 2 = 1 ∧ E = 2 - t - p + st + k ∧ 0 ≤ st ∧ m < 2 * h ∧ (st = 0 ∨ h ≤ m) ∧ sz S x = st * h + m ∧ sz S x < (2 * t + 1) * h
  zero : K = 0 → sz S x = 0
  inf : K = 2 → sz S x = (2 * t + 1) * h

/-- What both sides' Unpack tells of bits of a form. -/
theorem unpack_whole {f wd p t S D h q : Int} (hF : Frm f wd p t S D h q) (x : Int) (hx0 : 0 ≤ x) (hD : x < D) : ∃ (K E : Int) (M : Nat) (nb : Bool), Up f p t S D h x K E M nb := by
  obtain ⟨hsz, hX0, hX1, hf0, hf1⟩ := sz_of hF x hx0 hD
  obtain ⟨ha, hn⟩ := and_any hF.form x hx0 hD
  have hn' : bits .andNot .u64 x S = sz S x := hn
  have hnb : ((if x < S then (0 : Int) else S) != 0) = (x / S == 1) := by
    rcases hF with ⟨rfl, rfl, rfl, rfl, rfl, rfl, rfl, rfl⟩ | ⟨rfl, rfl, rfl, rfl, rfl, rfl, rfl, rfl⟩ | ⟨rfl, rfl, rfl, rfl, rfl, rfl, rfl, rfl⟩
    all_goals
      split
      · have e : x / _ = 0 := Int.ediv_eq_zero_of_lt hx0 ‹_›
        rw [e]; rfl
      · rw [Bool.eq_iff_iff]
        simp
        omega
  have hszlt : sz S x < D ∧ 0 ≤ sz S x := by
    unfold sz
    rcases hF with ⟨rfl, rfl, rfl, rfl, rfl, rfl, rfl, rfl⟩ | ⟨rfl, rfl, rfl, rfl, rfl, rfl, rfl, rfl⟩ | ⟨rfl, rfl, rfl, rfl, rfl, rfl, rfl, rfl⟩ <;> split <;> omega
  have hi : 0 < (2 * t + 1) * h ∧ 0 < h ∧ h < 18446744073709551616 := by
    rcases hF with ⟨rfl, rfl, rfl, rfl, rfl, rfl, rfl, rfl⟩ | ⟨rfl, rfl, rfl, rfl, rfl, rfl, rfl, rfl⟩ | ⟨rfl, rfl, rfl, rfl, rfl, rfl, rfl, rfl⟩ <;> decide
  have hsg : x = sz S x + (if (x / S == 1) then S else 0) := by
    rw [← hnb]
    unfold sz
    rcases hF with ⟨rfl, rfl, rfl, rfl, rfl, rfl, rfl, rfl⟩ | ⟨rfl, rfl, rfl, rfl, rfl, rfl, rfl, rfl⟩ | ⟨rfl, rfl, rfl, rfl, rfl, rfl, rfl, rfl⟩ <;> split <;> simp
  by_cases hX : x / h % q = 2 * t + 1
  · by_cases hf : x % h = 0
    · have e1 : sz S x = (2 * t + 1) * h := by rw [hsz, hX, hf]; omega
      refine ⟨2, 0, 0, (x / S == 1), fun w => sunpack_inf hF x w hx0 hD hX (by simpa using hf), fun w hs _ => ?_, hx0, hD, by simp, by simp, by simp, by rw [e1]; simp, fun _ => hsg, by simp, by simp, fun _ => e1⟩
      exact unpack_inf hF x (sz S x) _ _ w hs hx0 hD ha hnb hn' (by simp; omega) (by simpa using e1)
    · have e1 : (2 * t + 1) * h < sz S x := by rw [hsz, hX]; omega
      refine ⟨3, 0, 0, false, fun w => sunpack_nan hF x w hx0 hD hX (by simpa using hf), fun w hs _ => ?_, hx0, hD, by simp, by simp, by simp, by simpa using e1, by simp, by simp, by simp, by simp⟩
      exact unpack_nan hF x (sz S x) _ _ w hs hx0 hD ha rfl hn' (by simp; omega) (by simp; omega) e1
  · by_cases hX2 : x / h % q = 0
    · by_cases hf : x % h = 0
      · have e1 : sz S x = 0 := by rw [hsz, hX2, hf]; omega
        refine ⟨0, 0, 0, (x / S == 1), fun w => sunpack_zero hF x w hx0 hD hX2 (by simpa using hf), fun w hs _ => ?_, hx0, hD, by simp, by simp, by simp, by rw [e1]; simp; omega, fun _ => hsg, by simp, fun _ => e1, by simp⟩
        exact unpack_zero hF x (sz S x) _ _ w hs hx0 hD ha hnb hn' (by simpa using e1)
      · have e1 : sz S x = x % h := by rw [hsz, hX2]; omega
        have e2 : x % h < (2 * t + 1) * h := by
          rcases hF with ⟨rfl, rfl, rfl, rfl, rfl, rfl, rfl, rfl⟩ | ⟨rfl, rfl, rfl, rfl, rfl, rfl, rfl, rfl⟩ | ⟨rfl, rfl, rfl, rfl, rfl, rfl, rfl, rfl⟩ <;> omega
        obtain ⟨man, k, ht, ho⟩ := tz_exists (x % h) (by omega) (by omega)
        have hle := ht.le (show x % h < 18446744073709551616 by omega)
        have hpos := ht.pos
        obtain ⟨M, rfl⟩ := Int.eq_ofNat_of_zero_le (show 0 ≤ man by omega)
        have hbd : 15 ≤ t ∧ t ≤ 1023 ∧ 11 ≤ p ∧ p ≤ 53 ∧ h ≤ 4503599627370496 ∧ -1074 ≤ 2 - t - p := by
          rcases hF with ⟨rfl, rfl, rfl, rfl, rfl, rfl, rfl, rfl⟩ | ⟨rfl, rfl, rfl, rfl, rfl, rfl, rfl, rfl⟩ | ⟨rfl, rfl, rfl, rfl, rfl, rfl, rfl, rfl⟩ <;> decide
        refine ⟨1, 2 - t - p + 0 + k, M, (x / S == 1), fun w => (sunpack_low hF x w hx0 hD hX2 (by simpa using hf)).mono ?_, fun w hs hb => ?_, hx0, hD, by simp, fun _ => by omega, by simp, by simp; omega, fun _ => hsg, fun _ => ⟨x % h, 0, k, ht, ho, rfl, by omega, by omega, Or.inl rfl, by omega, by omega⟩, by simp, by simp⟩
        · rintro e w' ⟨k', man', ht', ho', he, hb⟩
          obtain ⟨rfl, rfl⟩ := ht.unique ht' ho ho'
          rw [Int.add_zero]
          exact ⟨he, hb⟩
        · refine unpack_fin hF x (sz S x) _ _ w hs hx0 hD ha hnb hn' (by simp; omega) (by simp; omega) (by omega) _ _ hb fun w hb => ?_
          rw [e1]
          exact finite_low hF _ _ (M : Int) k w (by omega) (by omega) ht ho hb
    · have e3 : sz S x / h = x / h % q ∧ sz S x % h = x % h ∧ h ≤ sz S x ∧ sz S x < (2 * t + 1) * h := by
        rw [hsz]
        rcases hF with ⟨rfl, rfl, rfl, rfl, rfl, rfl, rfl, rfl⟩ | ⟨rfl, rfl, rfl, rfl, rfl, rfl, rfl, rfl⟩ | ⟨rfl, rfl, rfl, rfl, rfl, rfl, rfl, rfl⟩ <;> omega
      have e4 : x % h + h < 18446744073709551616 := by
        rcases hF with ⟨rfl, rfl, rfl, rfl, rfl, rfl, rfl, rfl⟩ | ⟨rfl, rfl, rfl, rfl, rfl, rfl, rfl, rfl⟩ | ⟨rfl, rfl, rfl, rfl, rfl, rfl, rfl, rfl⟩ <;> omega
      obtain ⟨man, k, ht, ho⟩ := tz_exists (x % h + h) (by omega) e4
      have hle := ht.le e4
      have hpos := ht.pos
      obtain ⟨M, rfl⟩ := Int.eq_ofNat_of_zero_le (show 0 ≤ man by omega)
      have hbd : 15 ≤ t ∧ t ≤ 1023 ∧ 11 ≤ p ∧ p ≤ 53 ∧ h ≤ 4503599627370496 ∧ -1074 ≤ 2 - t - p := by
        rcases hF with ⟨rfl, rfl, rfl, rfl, rfl, rfl, rfl, rfl⟩ | ⟨rfl, rfl, rfl, rfl, rfl, rfl, rfl, rfl⟩ | ⟨rfl, rfl, rfl, rfl, rfl, rfl, rfl, rfl⟩ <;> decide
      have hst : 0 ≤ sz S x / h - 1 ∧ sz S x / h - 1 ≤ 2 * t := by omega
      refine ⟨1, 2 - t - p + (sz S x / h - 1) + k, M, (x / S == 1), fun w => (sunpack_norm hF x w hx0 hD hX2 hX).mono ?_, fun w hs hb => ?_, hx0, hD, by simp, fun _ => by omega, by simp, by simp; omega, fun _ => hsg, fun _ => ⟨x % h + h, sz S x / h - 1, k, ht, ho, rfl, hst.1, by omega, Or.inr (by omega), ?_, by omega⟩, by simp, by simp⟩
      rotate_left 2
      · rw [Int.sub_mul, Int.one_mul, ← e3.2.1]
        have := Int.mul_ediv_add_emod (sz S x) h
        rw [Int.mul_comm] at this
        omega
      · rintro e w' ⟨k', man', ht', ho', he, hb⟩
        obtain ⟨rfl, rfl⟩ := ht.unique ht' ho ho'
        rw [e3.1]
        have e5 : 2 - t - p + (x / h % q - 1) + (k : Int) = x / h % q - t - p + 1 + k := by omega
        rw [e5]
        exact ⟨he, hb⟩
      · refine unpack_fin hF x (sz S x) _ _ w hs hx0 hD ha hnb hn' (by simp; omega) (by simp; omega) (by omega) _ _ hb fun w hb => ?_
        have ht2 : Tz (sz S x % h + h) (M : Int) k := by rw [e3.2.1]; exact ht
        exact finite_norm hF _ _ (M : Int) k w e3.2.2.1 hszlt.1 ht2 ho hb

end Go.Proofs.YtghblaphkbcgpaaDoor

/- Rounding in plain numbers: what needs none is itself, and of two numbers the greater is not rounded to less. Nothing of the program stands here. -/
namespace Go.Proofs.YtghblaphkbcgpaaDoor

theorem up_none (mode : Int) (n o : Bool) : upOf mode n o (-1) false = false := by
  unfold upOf
  repeat' split
  all_goals simp

/-- A number that the form has exactly. -/
theorem z_exact {p t h mode st : Int} (n : Bool) {m : Nat} (hp : 1 ≤ p) (hh : h = ((2 ^ (p - 1).toNat : Nat) : Int)) (_ : 0 < m) (hm2 : (m : Int) < 2 * h) (hor : st = 0 ∨ h ≤ m) (hst : 0 ≤ st) :
    zOf p t h mode (2 - t - p + st) n m false = st * h + m := by
  have e2 : (2 : Nat) ^ p.toNat = 2 * 2 ^ (p - 1).toNat := by
    rw [show p.toNat = (p - 1).toNat + 1 by omega, Nat.pow_succ, Nat.mul_comm]
  have hb : blen m ≤ p.toNat := blen_le (by rw [e2]; omega)
  have hu : uOf p t (2 - t - p + st) m = 2 - t - p + st := by
    rcases hor with rfl | hor
    · unfold uOf
      split <;> omega
    · have : blen m = (p - 1).toNat + 1 := blen_at (by omega) (by rw [show (p - 1).toNat + 1 = p.toNat by omega, e2]; omega)
      unfold uOf
      rw [if_neg (by omega)]
      omega
  unfold zOf kOf
  rw [hu, show 2 - t - p + st - (2 - t - p + st) = 0 by omega, show 2 - t - p + st - (2 - t - p) = st by omega]
  have e3 : mOf m 0 = m := by simp [mOf]
  have e4 : hOf m 0 false = -1 := by simp [hOf]
  have e5 : sOf m 0 false = false := by simp [sOf, rOf]
  rw [e3, e4, e5, up_none]
  simp

theorem up_mono {mode : Int} {n o : Bool} {a b : Int} {s s' : Bool} (hab : a ≤ b) (hs : s = true → s' = true) (h : upOf mode n o a s = true) : upOf mode n o b s' = true := by
  unfold upOf at *
  by_cases m1 : mode = 1
  · rw [if_pos m1] at h ⊢
    simp only [Bool.or_eq_true, Bool.and_eq_true, decide_eq_true_eq] at h ⊢
    rcases h with h | ⟨h, ho⟩
    · exact Or.inl (by omega)
    · by_cases hb : b = 0
      · exact Or.inr ⟨hb, ho⟩
      · exact Or.inl (by omega)
  rw [if_neg m1] at h ⊢
  by_cases m2 : mode = 2
  · rw [if_pos m2] at h ⊢
    simp only [decide_eq_true_eq] at h ⊢
    omega
  rw [if_neg m2] at h ⊢
  by_cases m4 : mode = 4
  · rw [if_pos m4] at h ⊢
    simp only [Bool.and_eq_true] at h ⊢
    exact ⟨hs h.1, h.2⟩
  rw [if_neg m4] at h ⊢
  by_cases m5 : mode = 5
  · rw [if_pos m5] at h ⊢
    simp only [Bool.and_eq_true] at h ⊢
    exact ⟨hs h.1, h.2⟩
  rw [if_neg m5] at h
  exact absurd h (by decide)

theorem k_mono (mode : Int) (n : Bool) {N N' : Nat} (d : Int) (h : N ≤ N') : kOf mode n N d false ≤ kOf mode n N' d false := by
  by_cases hd : d ≤ 0
  · have e : ∀ N, kOf mode n N d false = N * 2 ^ (-d).toNat := fun N => by
      have e4 : hOf N d false = -1 := by simp [hOf, hd]
      have e5 : sOf N d false = false := by simp [sOf, rOf, hd]
      unfold kOf
      rw [e4, e5, up_none]
      simp [mOf, hd]
    rw [e, e]
    exact Nat.mul_le_mul_right _ h
  · have hm : ∀ N, mOf N d = N / 2 ^ d.toNat := fun N => by simp [mOf, hd]
    have hr : ∀ N, rOf N d = N % 2 ^ d.toNat := fun N => by simp [rOf, hd]
    have hc : ∀ N, hOf N d false = cmpOf (N % 2 ^ d.toNat) (2 ^ (d.toNat - 1)) := fun N => by simp [hOf, hd, hr]
    have hs : ∀ N, sOf N d false = decide (0 < N % 2 ^ d.toNat) := fun N => by simp [sOf, hr]
    have hle : N / 2 ^ d.toNat ≤ N' / 2 ^ d.toNat := Nat.div_le_div_right h
    have k1 := kOf_le mode n N d false
    have k2 := kOf_le mode n N' d false
    by_cases hlt : N / 2 ^ d.toNat < N' / 2 ^ d.toNat
    · rw [hm] at k1 k2
      omega
    · have he : N / 2 ^ d.toNat = N' / 2 ^ d.toNat := by omega
      have hrr : N % 2 ^ d.toNat ≤ N' % 2 ^ d.toNat := by
        have a := Nat.div_add_mod N (2 ^ d.toNat)
        have b := Nat.div_add_mod N' (2 ^ d.toNat)
        rw [he] at a
        omega
      have hcc : cmpOf (N % 2 ^ d.toNat) (2 ^ (d.toNat - 1)) ≤ cmpOf (N' % 2 ^ d.toNat) (2 ^ (d.toNat - 1)) := by
        unfold cmpOf
        repeat' split
        all_goals omega
      unfold kOf
      rw [hm, hm, hc, hc, hs, hs, he]
      have := up_mono (mode := mode) (n := n) (o := N' / 2 ^ d.toNat % 2 == 1) (s := decide (0 < N % 2 ^ d.toNat)) (s' := decide (0 < N' % 2 ^ d.toNat)) hcc (by simp; omega)
      split
      · rw [if_pos (this ‹_›)]
        exact Nat.le_refl _
      · omega

theorem blen_mono {N N' : Nat} (h : N ≤ N') : blen N ≤ blen N' := by
  rcases Nat.eq_zero_or_pos N' with rfl | h0
  · have : N = 0 := by omega
    rw [this]
    exact Nat.le_refl _
  · exact blen_le (Nat.lt_of_le_of_lt h (blen_pos h0).2.2)

theorem z_mono {p t h mode e : Int} (n : Bool) {N N' : Nat} (hp : 1 ≤ p) (hh : h = ((2 ^ (p - 1).toNat : Nat) : Int)) (h0 : 0 < N) (hle : N ≤ N') :
    zOf p t h mode e n N false ≤ zOf p t h mode e n N' false := by
  have hb := blen_mono hle
  obtain ⟨u1, u2, u3, u4⟩ := uOf_ge p t e N
  obtain ⟨v1, v2, v3, v4⟩ := uOf_ge p t e N'
  have hh0 : 0 < h := by
    have := Nat.pow_pos (n := (p - 1).toNat) (show 0 < 2 by decide)
    omega
  by_cases he : uOf p t e N = uOf p t e N'
  · unfold zOf
    rw [he]
    have := k_mono mode n (uOf p t e N' - e) hle
    omega
  · have hlt : uOf p t e N < uOf p t e N' := by
      by_cases c1 : e + blen N - 1 < 1 - t <;> by_cases c2 : e + blen N' - 1 < 1 - t
      · have := u3 c1; have := v3 c2; omega
      · have := u3 c1; omega
      · omega
      · have := u4 c1; have := v4 c2; omega
    have hbig : ¬ e + (blen N' : Int) - 1 < 1 - t := fun c => by have := v3 c; omega
    have hu' := v4 hbig
    have m1 : mOf N (uOf p t e N - e) < 2 ^ p.toNat := mOf_lt (by omega)
    have m2 : 2 ^ (p - 1).toNat ≤ mOf N' (uOf p t e N' - e) := mOf_ge (by omega) (by omega)
    have e2 : (2 : Nat) ^ p.toNat = 2 * 2 ^ (p - 1).toNat := by
      rw [show p.toNat = (p - 1).toNat + 1 by omega, Nat.pow_succ, Nat.mul_comm]
    have k1 := kOf_le mode n N (uOf p t e N - e) false
    have k2 := kOf_le mode n N' (uOf p t e N' - e) false
    have hm : (uOf p t e N - (2 - t - p)) * h + h ≤ (uOf p t e N' - (2 - t - p)) * h := by
      have := Int.mul_le_mul_of_nonneg_right (show uOf p t e N - (2 - t - p) + 1 ≤ uOf p t e N' - (2 - t - p) by omega) (Int.le_of_lt hh0)
      rw [Int.add_mul] at this
      omega
    unfold zOf
    omega

/-- The bits without their sign. -/
def sizV (p t h mode e : Int) (n : Bool) (N : Nat) : Int := if (2 * t + 1) * h ≤ zOf p t h mode e n N false then oOf mode ((2 * t + 1) * h) n else zOf p t h mode e n N false

theorem rnd_siz (p t h S mode e : Int) (n : Bool) (N : Nat) : rndV p t h S mode e n N false = sizV p t h mode e n N + (if n then S else 0) := rfl

theorem siz_mono {p t h mode e : Int} (n : Bool) {N N' : Nat} (hp : 1 ≤ p) (hh : h = ((2 ^ (p - 1).toNat : Nat) : Int)) (h0 : 0 < N) (hle : N ≤ N') : sizV p t h mode e n N ≤ sizV p t h mode e n N' := by
  have := z_mono (t := t) (mode := mode) (e := e) n hp hh h0 hle
  unfold sizV oOf
  repeat' split
  all_goals omega

theorem siz_top (p t h mode e : Int) (n : Bool) (N : Nat) : sizV p t h mode e n N ≤ (2 * t + 1) * h := by
  unfold sizV oOf
  repeat' split
  all_goals omega

theorem siz_pos {p t h mode e : Int} (n : Bool) {N : Nat} (hh : 0 < h) (ht : 0 < t) : 0 ≤ sizV p t h mode e n N := by
  obtain ⟨u1, -⟩ := uOf_ge p t e N
  have hz : 0 ≤ zOf p t h mode e n N false := by
    unfold zOf
    have := Int.mul_nonneg (show 0 ≤ uOf p t e N - (2 - t - p) by omega) (Int.le_of_lt hh)
    omega
  have : 0 < (2 * t + 1) * h := Int.mul_pos (by omega) hh
  unfold sizV oOf
  repeat' split
  all_goals omega
end Go.Proofs.YtghblaphkbcgpaaDoor
