/- QH6 QH7 Pz. -/
import Derived.Test.YtddbekacdfohpaaGreatDoorM19
import Derived.Test.YtddbekacdfohpaaGreatDoorQR2
import Derived.Test.YtddbekacdfohpaaGreatDoorQK2
import Derived.Test.YtddbekacdfohpaaGreatDoorM20
import Derived.Test.YtddbekacdfohpaaGreatDoorM21
import Derived.Test.YtddbekacdfohpaaGreatDoorDr
namespace Go.Proofs.YtddbekacdfohpaaGreatDoor.Q
open Go.RowKit

/-- A word of a finite number that is not 0. -/
theorem read_fin {x : Nat} (hx : x < 18446744073709551616) (h1 : (Ieee.double.read x).isNaN = false) (h2 : ∀ s, Ieee.double.read x ≠ .infinity s) (h3 : ∀ s p, Ieee.double.read x ≠ .number s 0 p) :
    ∃ (s : Bool) (m : Nat) (p : Int), m ≠ 0 ∧ m < 9007199254740992 ∧ -1074 ≤ p ∧ p ≤ 971 ∧ (4503599627370496 ≤ m ∨ p = -1074) ∧ Ieee.double.read x = .number s m p ∧ x = Ieee.double.word s ((p + 1074).toNat * 4503599627370496 + m) := by
  rcases read_cases x hx with h | ⟨s, h, _⟩ | ⟨s, h, _⟩ | ⟨s, m, d, a1, a2, a3, a4, a5, a6, a7⟩ | ⟨s, m, e, a1, a2, a3, a4, a5⟩
  · rw [h] at h1; cases h1
  · exact absurd h (h2 s)
  · exact absurd h (h3 s _)
  · refine ⟨s, m, _, by omega, a4, by omega, by omega, ?_, a6, ?_⟩
    · rcases a5 with a5 | a5
      · exact Or.inl a5
      · exact Or.inr (by omega)
    · rw [show (-(d : Int) + 1074).toNat = 1074 - d by omega]; exact a7
  · refine ⟨s, m, _, by omega, a3, by omega, by omega, Or.inl a2, a4, ?_⟩
    rw [show ((e : Int) + 1074).toNat = 1074 + e by omega]; exact a5

theorem read_flip {s : Bool} (s' : Bool) {k m : Nat} {p : Int} (hk : k < 9223372036854775808) (h : Ieee.double.read (Ieee.double.word s k) = .number s m p) : Ieee.double.read (Ieee.double.word s' k) = .number s' m p := by
  unfold Ieee.Format.read Ieee.Format.word at *
  simp only [e_sign, e_bin, e_inf, e_least] at *
  rw [sign_mod s hk, sign_div s hk] at h
  rw [sign_mod s' hk, sign_div s' hk]
  split
  · rename_i c
    rw [if_pos c] at h
    cases h; rfl
  · rename_i c
    rw [if_neg c] at h
    split
    · rename_i c2
      rw [if_pos c2] at h
      cases h; rfl
    · rename_i c2
      rw [if_neg c2] at h
      split at h <;> cases h

theorem word_val (s : Bool) (k : Nat) : ((Ieee.double.word s k : Nat) : Int) = (k : Int) + (if s then 9223372036854775808 else 0) := by
  unfold Ieee.Format.word
  rw [e_sign]
  cases s
  · rw [if_neg (by decide), if_neg (by decide)]; omega
  · rw [if_pos rfl, if_pos rfl]; omega

/-- What is packed of the parts. -/
theorem rnd_back (s : Bool) {m t : Nat} {p : Int} (h0 : m ≠ 0) (h1 : m < 9007199254740992) (h2 : -1074 ≤ p) (h3 : p ≤ 971) (h4 : 4503599627370496 ≤ m ∨ p = -1074) (ht : t + m.log2 = 52) :
    rndV 53 1023 4503599627370496 9223372036854775808 3 (p - t) s (m * 2 ^ t) false = ((Ieee.double.word s ((p + 1074).toNat * 4503599627370496 + m) : Nat) : Int) := by
  rw [word_val]
  obtain ⟨b0, b1⟩ := pow_bounds h0 t
  rw [show m.log2 + t = 52 by omega] at b0
  rw [show m.log2 + 1 + t = 53 by omega] at b1
  have hb : blen (m * 2 ^ t) = 53 := blen_at b0 b1
  have hup : ∀ (a b : Bool) (c : Int) (d : Bool), upOf 3 a b c d = false := fun _ _ _ _ => rfl
  have hz : zOf 53 1023 4503599627370496 3 (p - t) s (m * 2 ^ t) false = (((p + 1074).toNat * 4503599627370496 + m : Nat) : Int) := by
    unfold zOf kOf
    rw [hup]
    by_cases c : -1074 ≤ p - (t : Int)
    · have hu : uOf 53 1023 (p - t) (m * 2 ^ t) = p - t := by
        unfold uOf
        rw [hb, if_neg (by omega)]
        omega
      rw [hu, Int.sub_self]
      have hm : mOf (m * 2 ^ t) 0 = m * 2 ^ t := by simp [mOf]
      rw [hm]
      have ht0 : t = 0 := by
        rcases h4 with h4 | h4
        · have : m.log2 = 52 := log2_eq (by omega) (by omega)
          omega
        · omega
      subst ht0
      rw [Nat.pow_zero, Nat.mul_one]
      simp only [Bool.false_eq_true, if_false]
      omega
    · have hp : p = -1074 := by
        rcases h4 with h4 | h4
        · exfalso
          have : m.log2 = 52 := log2_eq (by omega) (by omega)
          omega
        · exact h4
      subst hp
      have hu : uOf 53 1023 (-1074 - (t : Int)) (m * 2 ^ t) = -1074 := by
        unfold uOf
        rw [hb, if_pos (by omega)]
        rfl
      rw [hu]
      have hm : mOf (m * 2 ^ t) (-1074 - (-1074 - (t : Int))) = m := by
        unfold mOf
        rw [if_neg (by omega), show ((-1074 : Int) - (-1074 - (t : Int))).toNat = t by omega, Nat.mul_div_cancel _ (Nat.two_pow_pos t)]
      rw [hm]
      simp only [Bool.false_eq_true, if_false]
      omega
  unfold rndV
  rw [hz, if_neg (by omega)]
end Go.Proofs.YtddbekacdfohpaaGreatDoor.Q

namespace Go.Proofs.YtddbekacdfohpaaGreatDoor.Q
open Go.RowKit

/-- A float's bits; all NaNs are the plain one. -/
def tb (x : Nat) : Nat := if (Ieee.double.read x).isNaN then 9221120237041090560 else x

theorem neg_back (b : Nat) : Op.negFloat .f64 (Op.negFloat .f64 b) = b := by
  show b ^^^ 9223372036854775808 ^^^ 9223372036854775808 = b
  rw [Nat.xor_assoc, Nat.xor_self, Nat.xor_zero]

theorem ord_sign {x m : Nat} {s : Bool} {p : Int} (h0 : m ≠ 0) (h : Ieee.double.read x = .number s m p) : FloatKind.f64.format.order x 0 = some (if s then .lt else .gt) := by
  rw [order_def, h, read_0]
  simp only [Ieee.Datum.order]
  have hm : 0 < m <<< (p - min p (-1074)).toNat := by rw [Nat.shiftLeft_eq]; exact Nat.mul_pos (by omega) (Nat.two_pow_pos _)
  have hz : Ieee.signed false 0 (-1074 - min p (-1074)).toNat = 0 := by simp [Ieee.signed]
  rw [hz]
  cases s
  · rw [icmp_gt]; rfl
    simp only [Ieee.signed, Bool.false_eq_true, if_false]; omega
  · rw [icmp_lt]; rfl
    simp only [Ieee.signed, if_true]; omega

set_option maxRecDepth 20000 in
set_option maxHeartbeats 2000000 in
theorem to_spec (x : Nat) (hx : x < 18446744073709551616) (w : World) : Calls Tryz.prog 29 #[.float .f64 x] w fun e w' => e = .returned (.int .u64 (tb x : Nat)) ∧ Below w.heap.size w w' := by
  by_cases hn : (Ieee.double.read x).isNaN = true
  · have o1 := order_nan hn
    have hp := fun w => l1Plain_any dbl w
    have ht : tb x = 9221120237041090560 := by simp [tb, hn]
    rw [ht]
    clear hn hx ht
    go_enter Tryz.func29, Tryz.ntmps29
    go_wp2_with (go_at_call 49; refine (hp _).mono ?_; rintro e w' ⟨rfl, hw⟩; obtain rfl := hw.symm)
    go_ret
    exact ⟨rfl, Below.refl _ _⟩
  · have hn' : (Ieee.double.read x).isNaN = false := by simpa using hn
    have ht : tb x = x := by simp [tb, hn']
    have o1 := order_same hn'
    rw [ht]
    by_cases hi : ∃ s, Ieee.double.read x = .infinity s
    · obtain ⟨s, hi⟩ := hi
      obtain ⟨s1, h1, hw⟩ : ∃ s1, Ieee.double.read x = .infinity s1 ∧ x = Ieee.double.word s1 9218868437227405312 := by
        rcases read_cases x hx with h | h | ⟨s2, h, _⟩ | ⟨s2, m, d, _, _, _, _, _, h, _⟩ | ⟨s2, m, e, _, _, _, h, _⟩
        · exact absurd h hn
        · exact h
        all_goals
          rw [hi] at h
          cases h
      have hf := fun w => l1Inf_any dbl s1 w
      have o2 : FloatKind.f64.format.order x 0 = some (if s1 then .lt else .gt) := by rw [order_def, h1, read_0]; rfl
      have o3 : FloatKind.f64.format.order 9218868437227405312 0 = some .gt := by decide +kernel
      have o4 : FloatKind.f64.format.order 9218868437227405312 9218868437227405312 = some .eq := by decide +kernel
      have q1 := rFl .quo (show floatBits .quo .f64 9218868437227405312 4611686018427387904 = some 9218868437227405312 by decide +kernel)
      have hxv : (x : Int) = (2 * 1023 + 1) * 4503599627370496 + (if s1 then 9223372036854775808 else 0) := by rw [hw, word_val]; rfl
      have HX : Hid _ := hxv
      cases s1
      · obtain rfl : x = 9218868437227405312 := hw
        clear h1 hi hn hn' ht hxv
        go_enter Tryz.func29, Tryz.ntmps29
        go_wp2_with (go_at_call 51; refine (hf _).mono ?_; rintro e w' ⟨rfl, hw⟩; obtain rfl := hw.symm)
        go_ret
        exact ⟨rfl, Below.refl _ _⟩
      · have hng : Op.negFloat .f64 x = 9218868437227405312 := by rw [hw]; decide +kernel
        have hun := rNeg
        simp only [if_true] at o2
        clear hw h1 hi hn hn' ht hxv
        go_enter Tryz.func29, Tryz.ntmps29
        go_wp2_with (go_at_call 51; refine (hf _).mono ?_; rintro e w' ⟨rfl, hw⟩; obtain rfl := hw.symm)
        go_ret
        exact ⟨by rw [HX.out]; rfl, Below.refl _ _⟩
    · by_cases hz : ∃ s p, Ieee.double.read x = .number s 0 p
      · obtain ⟨s, p, hz⟩ := hz
        obtain ⟨s1, h1, hw⟩ : ∃ s1, Ieee.double.read x = .number s1 0 (-1074) ∧ x = Ieee.double.word s1 0 := by
          rcases read_cases x hx with h | ⟨s2, h, _⟩ | h | ⟨s2, m, d, _, _, _, _, _, h, _⟩ | ⟨s2, m, e, _, _, _, h, _⟩
          · exact absurd h hn
          · rw [hz] at h; cases h
          · exact h
          · rw [hz] at h; cases h; omega
          · rw [hz] at h; cases h; omega
        have hf := fun b w => l1Sign_any dbl.form b w
        have o2 : FloatKind.f64.format.order x 0 = some .eq := by rw [hw]; cases s1 <;> decide +kernel
        have q1 := inf_quo s1
        rw [← hw] at q1
        have q1 := rFl .quo q1
        have o5 : FloatKind.f64.format.order (Ieee.double.word s1 9218868437227405312) 0 = some (if s1 then .lt else .gt) := by cases s1 <;> decide +kernel
        have hxv : (x : Int) = (if s1 then 9223372036854775808 else 0) := by rw [hw, word_val]; simp
        have HX : Hid _ := hxv
        clear hw h1 hz hi hn hn' ht hxv
        cases s1
        · simp only [Bool.false_eq_true, if_false] at o5
          go_enter Tryz.func29, Tryz.ntmps29
          go_wp2_with (go_at_call 50; refine (hf _ _).mono ?_; rintro e w' ⟨rfl, hw⟩; obtain rfl := hw.symm)
          go_ret
          exact ⟨by rw [HX.out]; rfl, Below.refl _ _⟩
        · simp only [if_true] at o5
          go_enter Tryz.func29, Tryz.ntmps29
          go_wp2_with (go_at_call 50; refine (hf _ _).mono ?_; rintro e w' ⟨rfl, hw⟩; obtain rfl := hw.symm)
          go_ret
          exact ⟨by rw [HX.out]; rfl, Below.refl _ _⟩
      · obtain ⟨s, m, p, h0, h1, h2, h3, h4, h, hw⟩ := read_fin hx hn' (fun s h => hi ⟨s, h⟩) (fun s p h => hz ⟨s, p, h⟩)
        have hL : m.log2 ≤ 52 := by
          have := (Nat.log2_lt h0).2 (show m < 2 ^ 53 by omega)
          omega
        have hk : (p + 1074).toNat * 4503599627370496 + m < 9223372036854775808 := by omega
        have hxs := write_read hx h
        have o2 := ord_sign h0 h
        -- the number without its sign
        obtain ⟨y, hy, hyr, hyn⟩ : ∃ y, y = Ieee.double.nearest false m p ∧ Ieee.double.read y = .number false m p ∧ (s = true → Op.negFloat .f64 x = y) ∧ (s = false → x = y) := by
          have hr := read_flip (s' := false) hk (by rw [← hw]; exact h)
          refine ⟨Ieee.double.word false ((p + 1074).toNat * 4503599627370496 + m), ?_, hr, ?_, ?_⟩
          · exact (write_read (word_sign false hk).2 hr).symm
          · intro hs
            subst hs
            rw [← write_read (word_sign false hk).2 hr, ← hxs, ← nearest_neg, neg_back]
          · intro hs
            subst hs
            exact hw
        have o3 : FloatKind.f64.format.order y 0 = some .gt := ord_sign h0 hyr
        have q1 := half false m p h0 h1 h2 (by omega)
        rw [← hy] at q1
        have q2 := ord_half h0 h1 h2 (by omega) hyr
        have q1 := rFl .quo q1
        have hfin := fun t ht => rnd_back s (t := t) h0 h1 h2 h3 h4 ht
        rw [← hw] at hfin
        have HF : Hid _ := hfin
        have HY : Hid (y = Ieee.double.nearest false m p) := hy
        clear hfin hy hxs hw hk h hyr hi hz hn hn' ht
        cases s
        · obtain rfl := hyn.2 rfl
          clear hyn o2
          go_enter Tryz.func29, Tryz.ntmps29
          go_wp2
          go_loopw [0, 4] (fun v i wr => ∃ a : Nat, v = .float .f64 (Ieee.double.nearest false m (p - a)) ∧ i = .int .i64 a ∧ (a : Int) ≤ max (p + m.log2 - 52) 0 ∧ wr = w) (fun _ i _ => (max (p + m.log2 - 52) 0 - intOf i).toNat)
          case atStart => exact ⟨0, by rw [HY.out]; simp, rfl, by omega, rfl⟩
          case round =>
            obtain ⟨a, rfl, rfl, ha, hwr⟩ := hrel
            replace hwr := hwr.symm
            subst hwr
            obtain ⟨l1, l2⟩ := ord_53 (q := p - a) h0 h1 (by omega) (by omega)
            by_cases c : 53 ≤ p - a + m.log2
            · have hh := rFl .quo (half false m (p - a) h0 h1 (by omega) (by omega))
              rcases l2 c with l2 | l2
              all_goals
                clear l1
                go_wp2
                go_roundw
                case rel => exact ⟨a + 1, by rw [show p - ((a + 1 : Nat) : Int) = p - a - 1 by omega], by go_num, by omega, trivial⟩
                case measure => simp [intOf]; omega
            · have l1 := l1 (by omega)
              clear l2
              go_wp2
              go_loopw [0, 4] (fun v i wr => ∃ b : Nat, v = .float .f64 (Ieee.double.nearest false m (p - a + b)) ∧ i = .int .i64 ((a : Int) - b) ∧ (b : Int) ≤ 52 - (p - a + m.log2) ∧ wr = w) (fun _ i _ => (52 - (p - a + m.log2) - ((a : Int) - intOf i)).toNat)
              case atStart => exact ⟨0, by simp, by simp, by omega, rfl⟩
              case round =>
                obtain ⟨b, rfl, rfl, hb, hwr⟩ := hrel
                replace hwr := hwr.symm
                subst hwr
                obtain ⟨k1, k2⟩ := ord_52 (q := p - a + b) h0 h1 (by omega) (by omega)
                by_cases c2 : p - a + b + m.log2 < 52
                · have k1 := k1 c2
                  have hh := rFl .mul (twice false m (p - a + b) h0 h1 (by omega) (by omega))
                  clear k2
                  go_wp2
                  go_roundw
                  case rel => exact ⟨b + 1, by rw [show p - a + ((b + 1 : Nat) : Int) = p - a + b + 1 by omega], by go_num, by omega, trivial⟩
                  case measure => simp [intOf]; omega
                · obtain ⟨t, hte⟩ : ∃ t : Nat, p - (a : Int) + b = t := ⟨(p - a + b).toNat, by omega⟩
                  have hab : (a : Int) - b = p - t := by omega
                  have htl : t + m.log2 = 52 := by omega
                  obtain ⟨b0, b1⟩ := pow_bounds h0 t
                  rw [show m.log2 + t = 52 by omega] at b0
                  rw [show m.log2 + 1 + t = 53 by omega] at b1
                  rw [hte] at k2
                  rw [hte, hab]
                  have hcv : ∀ w, (convert 37 59 (.float .f64 (Ieee.double.nearest false m t))).run Tryz.prog w = .ok (.int .u64 ((m * 2 ^ t : Nat) : Int)) w := fun w => run_convert_float_int w 37 59 .f64 .u64 _ _ (by kernel_rfl) Tryz.underlying59 (to_whole h0 h1 b0 b1 (by omega))
                  have hpk := fun w => spack_fin dbl 3 (p - t) (m * 2 ^ t) false w (by omega) (by omega) (by omega) (by omega) (by omega) (by omega)
                  rw [HF.out t htl] at hpk
                  have k2 := k2 (by omega)
                  generalize m * 2 ^ t = M at *
                  generalize rndF 53 1023 4503599627370496 3 (p - t) false M false = fl at *
                  clear k1 b0 b1
                  rcases k2 with k2 | k2
                  all_goals
                    go_wp2_with (go_at_call 52; refine (hpk _).mono ?_; rintro e w' ⟨rfl, hw⟩)
                    go_ret
                    exact ⟨rfl, hw⟩
        · have hng := hyn.1 rfl
          have hun := rNeg
          clear hyn
          simp only [if_true] at o2
          go_enter Tryz.func29, Tryz.ntmps29
          go_wp2
          go_loopw [0, 4] (fun v i wr => ∃ a : Nat, v = .float .f64 (Ieee.double.nearest false m (p - a)) ∧ i = .int .i64 a ∧ (a : Int) ≤ max (p + m.log2 - 52) 0 ∧ wr = w) (fun _ i _ => (max (p + m.log2 - 52) 0 - intOf i).toNat)
          case atStart => exact ⟨0, by rw [HY.out]; simp, rfl, by omega, rfl⟩
          case round =>
            obtain ⟨a, rfl, rfl, ha, hwr⟩ := hrel
            replace hwr := hwr.symm
            subst hwr
            obtain ⟨l1, l2⟩ := ord_53 (q := p - a) h0 h1 (by omega) (by omega)
            by_cases c : 53 ≤ p - a + m.log2
            · have hh := rFl .quo (half false m (p - a) h0 h1 (by omega) (by omega))
              rcases l2 c with l2 | l2
              all_goals
                clear l1
                go_wp2
                go_roundw
                case rel => exact ⟨a + 1, by rw [show p - ((a + 1 : Nat) : Int) = p - a - 1 by omega], by go_num, by omega, trivial⟩
                case measure => simp [intOf]; omega
            · have l1 := l1 (by omega)
              clear l2
              go_wp2
              go_loopw [0, 4] (fun v i wr => ∃ b : Nat, v = .float .f64 (Ieee.double.nearest false m (p - a + b)) ∧ i = .int .i64 ((a : Int) - b) ∧ (b : Int) ≤ 52 - (p - a + m.log2) ∧ wr = w) (fun _ i _ => (52 - (p - a + m.log2) - ((a : Int) - intOf i)).toNat)
              case atStart => exact ⟨0, by simp, by simp, by omega, rfl⟩
              case round =>
                obtain ⟨b, rfl, rfl, hb, hwr⟩ := hrel
                replace hwr := hwr.symm
                subst hwr
                obtain ⟨k1, k2⟩ := ord_52 (q := p - a + b) h0 h1 (by omega) (by omega)
                by_cases c2 : p - a + b + m.log2 < 52
                · have k1 := k1 c2
                  have hh := rFl .mul (twice false m (p - a + b) h0 h1 (by omega) (by omega))
                  clear k2
                  go_wp2
                  go_roundw
                  case rel => exact ⟨b + 1, by rw [show p - a + ((b + 1 : Nat) : Int) = p - a + b + 1 by omega], by go_num, by omega, trivial⟩
                  case measure => simp [intOf]; omega
                · obtain ⟨t, hte⟩ : ∃ t : Nat, p - (a : Int) + b = t := ⟨(p - a + b).toNat, by omega⟩
                  have hab : (a : Int) - b = p - t := by omega
                  have htl : t + m.log2 = 52 := by omega
                  obtain ⟨b0, b1⟩ := pow_bounds h0 t
                  rw [show m.log2 + t = 52 by omega] at b0
                  rw [show m.log2 + 1 + t = 53 by omega] at b1
                  rw [hte] at k2
                  rw [hte, hab]
                  have hcv : ∀ w, (convert 37 59 (.float .f64 (Ieee.double.nearest false m t))).run Tryz.prog w = .ok (.int .u64 ((m * 2 ^ t : Nat) : Int)) w := fun w => run_convert_float_int w 37 59 .f64 .u64 _ _ (by kernel_rfl) Tryz.underlying59 (to_whole h0 h1 b0 b1 (by omega))
                  have hpk := fun w => spack_fin dbl 3 (p - t) (m * 2 ^ t) true w (by omega) (by omega) (by omega) (by omega) (by omega) (by omega)
                  rw [HF.out t htl] at hpk
                  have k2 := k2 (by omega)
                  generalize m * 2 ^ t = M at *
                  generalize rndF 53 1023 4503599627370496 3 (p - t) true M false = fl at *
                  clear k1 b0 b1
                  rcases k2 with k2 | k2
                  all_goals
                    go_wp2_with (go_at_call 52; refine (hpk _).mono ?_; rintro e w' ⟨rfl, hw⟩)
                    go_ret
                    exact ⟨rfl, hw⟩
end Go.Proofs.YtddbekacdfohpaaGreatDoor.Q

namespace Go.Proofs.YtddbekacdfohpaaGreatDoor
open Go.RowKit

theorem tb_cn {x y : Nat} (h : cn x = cn y) : Q.tb x = Q.tb y := by
  unfold Q.tb
  cases hx : (Ieee.double.read x).isNaN with
  | true =>
    cases hy : (Ieee.double.read y).isNaN with
    | true => rfl
    | false => rw [cn_none hx, cn_some hy] at h; cases h
  | false =>
    cases hy : (Ieee.double.read y).isNaN with
    | true => rw [cn_some hx, cn_none hy] at h; cases h
    | false =>
      rw [cn_some hx, cn_some hy] at h
      simp only [Bool.false_eq_true, if_false]
      exact Option.some.inj h

set_option maxHeartbeats 1000000 in
theorem to_nan {x : Nat} (hn : (Ieee.double.read x).isNaN = true) (w : World) : Calls Tryz.prog 29 #[.float .f64 x] w fun e w' => e = .returned (.int .u64 (Q.tb x : Nat)) ∧ Below w.heap.size w w' := by
  have o1 := order_nan hn
  have hp := fun w => Q.l1Plain_any Q.dbl w
  have ht : Q.tb x = 9221120237041090560 := by simp [Q.tb, hn]
  rw [ht]
  clear hn ht
  go_enter Tryz.func29, Tryz.ntmps29
  go_wp2_with (go_at_call 49; refine (hp _).mono ?_; rintro e w' ⟨rfl, hw⟩; obtain rfl := hw.symm)
  go_ret
  exact ⟨rfl, Below.refl _ _⟩

theorem to_any {x : Nat} (h : Bd x) (w : World) : Calls Tryz.prog 29 #[.float .f64 x] w fun e w' => e = .returned (.int .u64 (Q.tb x : Nat)) ∧ Below w.heap.size w w' := by
  rcases h with h | h
  · refine to_nan ?_ w
    cases hh : (Ieee.double.read x).isNaN with
    | true => rfl
    | false => rw [cn_some hh] at h; cases h
  · exact Q.to_spec x h w

set_option maxHeartbeats 1000000 in
theorem same_any {a b : Nat} (ha : Bd a) (hb : Bd b) (h : cn a = cn b) (w : World) : Calls Tryz.prog 12 #[.float .f64 a, .float .f64 b] w fun e w' => e = .returned (.bool true) ∧ Below w.heap.size w w' := by
  have ht : Q.tb a = Q.tb b := tb_cn h
  have h1 := fun w => to_any ha w
  have h2 := fun w => to_any hb w
  rw [← ht] at h2
  generalize Q.tb a = t at *
  clear h ha hb ht
  go_enter Tryz.func12, Tryz.ntmps12
  have HB : Hid (Below w.heap.size w w) := Below.refl _ _
  go_wp2_with (go_at_call 29; (first | with_reducible refine (h1 _).mono ?_ | with_reducible refine (h2 _).mono ?_); rintro e w' ⟨rfl, hb⟩; have HB : Hid _ := bstep HB.out hb; clear hb)
  go_ret
  exact ⟨rfl, HB.out⟩

set_option maxHeartbeats 1000000 in
theorem samePair_any {x y u v : Nat} (h1 : cn x = cn u) (h2 : cn y = cn v) (bx : Bd x) (by_ : Bd y) (bu : Bd u) (bv : Bd v) (w : World) : Calls Tryz.prog 11 #[Pv x y, Pv u v] w fun e w' => e = .returned (.bool true) ∧ Below w.heap.size w w' := by
  have e1 := fun W => same_any bx bu h1 W
  have e2 := fun W => same_any by_ bv h2 W
  have hB0 : Below w.heap.size w ((w.alloc (.cells #[.float .f64 x, .float .f64 y] 39)).alloc (.cells #[.float .f64 u, .float .f64 v] 39)) := by
    repeat first | exact Below.refl _ _ | refine Below.alloc ?_ (by simp; try omega) _
  have f0 := (Rb.new w x y 39 rfl).alloc (.cells #[.float .f64 u, .float .f64 v] 39)
  have f1 := Rb.new (w.alloc (.cells #[.float .f64 x, .float .f64 y] 39)) u v 39 (g := w.heap.size + 1) (by simp)
  clear h1 h2 bx by_ bu bv
  go_enter Tryz.func11, Tryz.ntmps11
  go_wp2_with (first
    | (go_at_call 12; (fail_if_success have := hb1); refine (e1 _).mono ?_; rintro e w1 ⟨rfl, hb1⟩; obtain ⟨g0, g1, _, _⟩ := f0.call hb1; obtain ⟨k0, k1, _, _⟩ := f1.call hb1)
    | (go_at_call 12; refine (e2 _).mono ?_; rintro e w2 ⟨rfl, hb2⟩))
  go_ret
  exact ⟨rfl, bstep (bstep hB0 hb1) hb2⟩

end Go.Proofs.YtddbekacdfohpaaGreatDoor
