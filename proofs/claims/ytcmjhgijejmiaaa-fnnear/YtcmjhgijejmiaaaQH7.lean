/- The model's ToBits. -/
import Derived.Test.YtcmjhgijejmiaaaQH6
import Derived.Test.YtcmjhgijejmiaaaQK2
import Derived.Test.YtcmjhgijejmiaaaQH2
namespace Go.Proofs.Ytcmjhgijejmiaaa.Q
open Go.RowKit

/-- A float's bits; all NaNs are the plain one. -/
def tb (x : Nat) : Nat := if (Ieee.double.read x).isNaN then 9221120237041090560 else x

theorem neg_back (b : Nat) : Op.negFloat .f64 (Op.negFloat .f64 b) = b := by
  show b ^^^ 9223372036854775808 ^^^ 9223372036854775808 = b
  rw [Nat.xor_assoc, Nat.xor_self, Nat.xor_zero]

theorem ord_sign {x m : Nat} {s : Bool} {p : Int} (h0 : m ≠ 0) (h : Ieee.double.read x = .number s m p) : FloatKind.f64.format.order x 0 = some (if s then .lt else .gt) := by
  rw [order_def, h, read_0]
  simp only [Ieee.Datum.order]
  have hm : 0 < m <<< (p - min p (-1074)).toNat := by rw [Nat.shiftLeft_eq]; exact Nat.mul_pos (by omega) (Nat.two_pow_pos _)
  have hz : Ieee.signed false 0 (-1074 - min p (-1074)).toNat = 0 := by simp [Ieee.signed]
  rw [hz]
  cases s
  · rw [icmp_gt]; rfl
    simp only [Ieee.signed, Bool.false_eq_true, if_false]; omega
  · rw [icmp_lt]; rfl
    simp only [Ieee.signed, if_true]; omega

set_option maxRecDepth 20000 in
set_option maxHeartbeats 2000000 in
theorem to_spec (x : Nat) (hx : x < 18446744073709551616) (w : World) : Calls Try.prog 15 #[.float .f64 x] w fun e w' => e = .returned (.int .u64 (tb x : Nat)) ∧ Below w.heap.size w w' := by
  by_cases hn : (Ieee.double.read x).isNaN = true
  · have o1 := order_nan hn
    have hp := fun w => l1Plain_any dbl w
    have ht : tb x = 9221120237041090560 := by simp [tb, hn]
    rw [ht]
    clear hn hx ht
    go_enter Try.func15, Try.ntmps15
    go_wp2_with (go_at_call 19; refine (hp _).mono ?_; rintro e w' ⟨rfl, hw⟩; obtain rfl := hw.symm)
    go_ret
    exact ⟨rfl, Below.refl _ _⟩
  · have hn' : (Ieee.double.read x).isNaN = false := by simpa using hn
    have ht : tb x = x := by simp [tb, hn']
    have o1 := order_same hn'
    rw [ht]
    by_cases hi : ∃ s, Ieee.double.read x = .infinity s
    · obtain ⟨s, hi⟩ := hi
      obtain ⟨s1, h1, hw⟩ : ∃ s1, Ieee.double.read x = .infinity s1 ∧ x = Ieee.double.word s1 9218868437227405312 := by
        rcases read_cases x hx with h | h | ⟨s2, h, _⟩ | ⟨s2, m, d, _, _, _, _, _, h, _⟩ | ⟨s2, m, e, _, _, _, h, _⟩
        · exact absurd h hn
        · exact h
        all_goals
          rw [hi] at h
          cases h
      have hf := fun w => l1Inf_any dbl s1 w
      have o2 : FloatKind.f64.format.order x 0 = some (if s1 then .lt else .gt) := by rw [order_def, h1, read_0]; rfl
      have o3 : FloatKind.f64.format.order 9218868437227405312 0 = some .gt := by decide +kernel
      have o4 : FloatKind.f64.format.order 9218868437227405312 9218868437227405312 = some .eq := by decide +kernel
      have q1 := rFl .quo (show floatBits .quo .f64 9218868437227405312 4611686018427387904 = some 9218868437227405312 by decide +kernel)
      have hxv : (x : Int) = (2 * 1023 + 1) * 4503599627370496 + (if s1 then 9223372036854775808 else 0) := by rw [hw, word_val]; rfl
      have HX : Hid _ := hxv
      cases s1
      · obtain rfl : x = 9218868437227405312 := hw
        clear h1 hi hn hn' ht hxv
        go_enter Try.func15, Try.ntmps15
        go_wp2_with (go_at_call 21; refine (hf _).mono ?_; rintro e w' ⟨rfl, hw⟩; obtain rfl := hw.symm)
        go_ret
        exact ⟨rfl, Below.refl _ _⟩
      · have hng : Op.negFloat .f64 x = 9218868437227405312 := by rw [hw]; decide +kernel
        have hun := rNeg
        simp only [if_true] at o2
        clear hw h1 hi hn hn' ht hxv
        go_enter Try.func15, Try.ntmps15
        go_wp2_with (go_at_call 21; refine (hf _).mono ?_; rintro e w' ⟨rfl, hw⟩; obtain rfl := hw.symm)
        go_ret
        exact ⟨by rw [HX.out]; rfl, Below.refl _ _⟩
    · by_cases hz : ∃ s p, Ieee.double.read x = .number s 0 p
      · obtain ⟨s, p, hz⟩ := hz
        obtain ⟨s1, h1, hw⟩ : ∃ s1, Ieee.double.read x = .number s1 0 (-1074) ∧ x = Ieee.double.word s1 0 := by
          rcases read_cases x hx with h | ⟨s2, h, _⟩ | h | ⟨s2, m, d, _, _, _, _, _, h, _⟩ | ⟨s2, m, e, _, _, _, h, _⟩
          · exact absurd h hn
          · rw [hz] at h; cases h
          · exact h
          · rw [hz] at h; cases h; omega
          · rw [hz] at h; cases h; omega
        have hf := fun b w => l1Sign_any dbl.form b w
        have o2 : FloatKind.f64.format.order x 0 = some .eq := by rw [hw]; cases s1 <;> decide +kernel
        have q1 := inf_quo s1
        rw [← hw] at q1
        have q1 := rFl .quo q1
        have o5 : FloatKind.f64.format.order (Ieee.double.word s1 9218868437227405312) 0 = some (if s1 then .lt else .gt) := by cases s1 <;> decide +kernel
        have hxv : (x : Int) = (if s1 then 9223372036854775808 else 0) := by rw [hw, word_val]; simp
        have HX : Hid _ := hxv
        clear hw h1 hz hi hn hn' ht hxv
        cases s1
        · simp only [Bool.false_eq_true, if_false] at o5
          go_enter Try.func15, Try.ntmps15
          go_wp2_with (go_at_call 20; refine (hf _ _).mono ?_; rintro e w' ⟨rfl, hw⟩; obtain rfl := hw.symm)
          go_ret
          exact ⟨by rw [HX.out]; rfl, Below.refl _ _⟩
        · simp only [if_true] at o5
          go_enter Try.func15, Try.ntmps15
          go_wp2_with (go_at_call 20; refine (hf _ _).mono ?_; rintro e w' ⟨rfl, hw⟩; obtain rfl := hw.symm)
          go_ret
          exact ⟨by rw [HX.out]; rfl, Below.refl _ _⟩
      · obtain ⟨s, m, p, h0, h1, h2, h3, h4, h, hw⟩ := read_fin hx hn' (fun s h => hi ⟨s, h⟩) (fun s p h => hz ⟨s, p, h⟩)
        have hL : m.log2 ≤ 52 := by
          have := (Nat.log2_lt h0).2 (show m < 2 ^ 53 by omega)
          omega
        have hk : (p + 1074).toNat * 4503599627370496 + m < 9223372036854775808 := by omega
        have hxs := write_read hx h
        have o2 := ord_sign h0 h
        -- the number without its sign
        obtain ⟨y, hy, hyr, hyn⟩ : ∃ y, y = Ieee.double.nearest false m p ∧ Ieee.double.read y = .number false m p ∧ (s = true → Op.negFloat .f64 x = y) ∧ (s = false → x = y) := by
          have hr := read_flip (s' := false) hk (by rw [← hw]; exact h)
          refine ⟨Ieee.double.word false ((p + 1074).toNat * 4503599627370496 + m), ?_, hr, ?_, ?_⟩
          · exact (write_read (word_sign false hk).2 hr).symm
          · intro hs
            subst hs
            rw [← write_read (word_sign false hk).2 hr, ← hxs, ← nearest_neg, neg_back]
          · intro hs
            subst hs
            exact hw
        have o3 : FloatKind.f64.format.order y 0 = some .gt := ord_sign h0 hyr
        have q1 := half false m p h0 h1 h2 (by omega)
        rw [← hy] at q1
        have q2 := ord_half h0 h1 h2 (by omega) hyr
        have q1 := rFl .quo q1
        have hfin := fun t ht => rnd_back s (t := t) h0 h1 h2 h3 h4 ht
        rw [← hw] at hfin
        have HF : Hid _ := hfin
        have HY : Hid (y = Ieee.double.nearest false m p) := hy
        clear hfin hy hxs hw hk h hyr hi hz hn hn' ht
        cases s
        · obtain rfl := hyn.2 rfl
          clear hyn o2
          go_enter Try.func15, Try.ntmps15
          go_wp2
          go_loopw [0, 4] (fun v i wr => ∃ a : Nat, v = .float .f64 (Ieee.double.nearest false m (p - a)) ∧ i = .int .i64 a ∧ (a : Int) ≤ max (p + m.log2 - 52) 0 ∧ wr = w) (fun _ i _ => (max (p + m.log2 - 52) 0 - intOf i).toNat)
          case atStart => exact ⟨0, by rw [HY.out]; simp, rfl, by omega, rfl⟩
          case round =>
            obtain ⟨a, rfl, rfl, ha, hwr⟩ := hrel
            replace hwr := hwr.symm
            subst hwr
            obtain ⟨l1, l2⟩ := ord_53 (q := p - a) h0 h1 (by omega) (by omega)
            by_cases c : 53 ≤ p - a + m.log2
            · have hh := rFl .quo (half false m (p - a) h0 h1 (by omega) (by omega))
              rcases l2 c with l2 | l2
              all_goals
                clear l1
                go_wp2
                go_roundw
                case rel => exact ⟨a + 1, by rw [show p - ((a + 1 : Nat) : Int) = p - a - 1 by omega], by go_num, by omega, trivial⟩
                case measure => simp [intOf]; omega
            · have l1 := l1 (by omega)
              clear l2
              go_wp2
              go_loopw [0, 4] (fun v i wr => ∃ b : Nat, v = .float .f64 (Ieee.double.nearest false m (p - a + b)) ∧ i = .int .i64 ((a : Int) - b) ∧ (b : Int) ≤ 52 - (p - a + m.log2) ∧ wr = w) (fun _ i _ => (52 - (p - a + m.log2) - ((a : Int) - intOf i)).toNat)
              case atStart => exact ⟨0, by simp, by simp, by omega, rfl⟩
              case round =>
                obtain ⟨b, rfl, rfl, hb, hwr⟩ := hrel
                replace hwr := hwr.symm
                subst hwr
                obtain ⟨k1, k2⟩ := ord_52 (q := p - a + b) h0 h1 (by omega) (by omega)
                by_cases c2 : p - a + b + m.log2 < 52
                · have k1 := k1 c2
                  have hh := rFl .mul (twice false m (p - a + b) h0 h1 (by omega) (by omega))
                  clear k2
                  go_wp2
                  go_roundw
                  case rel => exact ⟨b + 1, by rw [show p - a + ((b + 1 : Nat) : Int) = p - a + b + 1 by omega], by go_num, by omega, trivial⟩
                  case measure => simp [intOf]; omega
                · obtain ⟨t, hte⟩ : ∃ t : Nat, p - (a : Int) + b = t := ⟨(p - a + b).toNat, by omega⟩
                  have hab : (a : Int) - b = p - t := by omega
                  have htl : t + m.log2 = 52 := by omega
                  obtain ⟨b0, b1⟩ := pow_bounds h0 t
                  rw [show m.log2 + t = 52 by omega] at b0
                  rw [show m.log2 + 1 + t = 53 by omega] at b1
                  rw [hte] at k2
                  rw [hte, hab]
                  have hcv : ∀ w, (convert 24 33 (.float .f64 (Ieee.double.nearest false m t))).run Try.prog w = .ok (.int .u64 ((m * 2 ^ t : Nat) : Int)) w := fun w => run_convert_float_int w 24 33 .f64 .u64 _ _ (by kernel_rfl) Try.underlying33 (to_whole h0 h1 b0 b1 (by omega))
                  have hpk := fun w => spack_fin dbl 3 (p - t) (m * 2 ^ t) false w (by omega) (by omega) (by omega) (by omega) (by omega) (by omega)
                  rw [HF.out t htl] at hpk
                  have k2 := k2 (by omega)
                  generalize m * 2 ^ t = M at *
                  generalize rndF 53 1023 4503599627370496 3 (p - t) false M false = fl at *
                  clear k1 b0 b1
                  rcases k2 with k2 | k2
                  all_goals
                    go_wp2_with (go_at_call 22; refine (hpk _).mono ?_; rintro e w' ⟨rfl, hw⟩)
                    go_ret
                    exact ⟨rfl, hw⟩
        · have hng := hyn.1 rfl
          have hun := rNeg
          clear hyn
          simp only [if_true] at o2
          go_enter Try.func15, Try.ntmps15
          go_wp2
          go_loopw [0, 4] (fun v i wr => ∃ a : Nat, v = .float .f64 (Ieee.double.nearest false m (p - a)) ∧ i = .int .i64 a ∧ (a : Int) ≤ max (p + m.log2 - 52) 0 ∧ wr = w) (fun _ i _ => (max (p + m.log2 - 52) 0 - intOf i).toNat)
          case atStart => exact ⟨0, by rw [HY.out]; simp, rfl, by omega, rfl⟩
          case round =>
            obtain ⟨a, rfl, rfl, ha, hwr⟩ := hrel
            replace hwr := hwr.symm
            subst hwr
            obtain ⟨l1, l2⟩ := ord_53 (q := p - a) h0 h1 (by omega) (by omega)
            by_cases c : 53 ≤ p - a + m.log2
            · have hh := rFl .quo (half false m (p - a) h0 h1 (by omega) (by omega))
              rcases l2 c with l2 | l2
              all_goals
                clear l1
                go_wp2
                go_roundw
                case rel => exact ⟨a + 1, by rw [show p - ((a + 1 : Nat) : Int) = p - a - 1 by omega], by go_num, by omega, trivial⟩
                case measure => simp [intOf]; omega
            · have l1 := l1 (by omega)
              clear l2
              go_wp2
              go_loopw [0, 4] (fun v i wr => ∃ b : Nat, v = .float .f64 (Ieee.double.nearest false m (p - a + b)) ∧ i = .int .i64 ((a : Int) - b) ∧ (b : Int) ≤ 52 - (p - a + m.log2) ∧ wr = w) (fun _ i _ => (52 - (p - a + m.log2) - ((a : Int) - intOf i)).toNat)
              case atStart => exact ⟨0, by simp, by simp, by omega, rfl⟩
              case round =>
                obtain ⟨b, rfl, rfl, hb, hwr⟩ := hrel
                replace hwr := hwr.symm
                subst hwr
                obtain ⟨k1, k2⟩ := ord_52 (q := p - a + b) h0 h1 (by omega) (by omega)
                by_cases c2 : p - a + b + m.log2 < 52
                · have k1 := k1 c2
                  have hh := rFl .mul (twice false m (p - a + b) h0 h1 (by omega) (by omega))
                  clear k2
                  go_wp2
                  go_roundw
                  case rel => exact ⟨b + 1, by rw [show p - a + ((b + 1 : Nat) : Int) = p - a + b + 1 by omega], by go_num, by omega, trivial⟩
                  case measure => simp [intOf]; omega
                · obtain ⟨t, hte⟩ : ∃ t : Nat, p - (a : Int) + b = t := ⟨(p - a + b).toNat, by omega⟩
                  have hab : (a : Int) - b = p - t := by omega
                  have htl : t + m.log2 = 52 := by omega
                  obtain ⟨b0, b1⟩ := pow_bounds h0 t
                  rw [show m.log2 + t = 52 by omega] at b0
                  rw [show m.log2 + 1 + t = 53 by omega] at b1
                  rw [hte] at k2
                  rw [hte, hab]
                  have hcv : ∀ w, (convert 24 33 (.float .f64 (Ieee.double.nearest false m t))).run Try.prog w = .ok (.int .u64 ((m * 2 ^ t : Nat) : Int)) w := fun w => run_convert_float_int w 24 33 .f64 .u64 _ _ (by kernel_rfl) Try.underlying33 (to_whole h0 h1 b0 b1 (by omega))
                  have hpk := fun w => spack_fin dbl 3 (p - t) (m * 2 ^ t) true w (by omega) (by omega) (by omega) (by omega) (by omega) (by omega)
                  rw [HF.out t htl] at hpk
                  have k2 := k2 (by omega)
                  generalize m * 2 ^ t = M at *
                  generalize rndF 53 1023 4503599627370496 3 (p - t) true M false = fl at *
                  clear k1 b0 b1
                  rcases k2 with k2 | k2
                  all_goals
                    go_wp2_with (go_at_call 22; refine (hpk _).mono ?_; rintro e w' ⟨rfl, hw⟩)
                    go_ret
                    exact ⟨rfl, hw⟩
end Go.Proofs.Ytcmjhgijejmiaaa.Q
