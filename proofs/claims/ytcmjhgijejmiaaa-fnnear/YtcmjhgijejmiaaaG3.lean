/- The model's Near. -/
import Derived.Test.YtcmjhgijejmiaaaG2
namespace Go.Proofs.Ytcmjhgijejmiaaa
open Go.RowKit

/-- How a small number stands to 0, to 2 ^ 52 and to its opposite. -/
theorem small_orders {x m d : Nat} {s : Bool} (hd : 1 ≤ d) (hd2 : d ≤ 1074) (h0 : 0 < m) (h1 : m < 9007199254740992) (hx : Ieee.double.read x = .number s m (-(d : Int))) :
    FloatKind.f64.format.order x 0 = some (if s then .lt else .gt) ∧ FloatKind.f64.format.order x 4841369599423283200 = some .lt ∧ FloatKind.f64.format.order x 14064741636278059008 = some .gt := by
  have hp : 2 ^ 1 ≤ 2 ^ d := Nat.pow_le_pow_right (by decide) hd
  have hq : 0 < 2 ^ (1074 - d) := Nat.two_pow_pos _
  have hm : 0 < m * 2 ^ (1074 - d) := Nat.mul_pos h0 hq
  have e0 : (-(d : Int) - min (-(d : Int)) (-1074)).toNat = 1074 - d := by omega
  have e1 : (-(d : Int) - min (-(d : Int)) 0).toNat = 0 := by omega
  have e2 : ((0 : Int) - min (-(d : Int)) 0).toNat = d := by omega
  simp only [order_def, hx, read_0, read_c, read_cn, Ieee.Datum.order, e0, e1, e2]
  cases s
  · refine ⟨?_, ?_, ?_⟩
    · rw [cmp_gt]; rfl
      simp only [Ieee.signed, Nat.shiftLeft_eq, Bool.false_eq_true, if_false, Nat.zero_mul]; omega
    · rw [cmp_lt]
      simp only [Ieee.signed, Nat.shiftLeft_eq, Bool.false_eq_true, if_false, Nat.pow_zero, Nat.mul_one]; omega
    · rw [cmp_gt]
      simp only [Ieee.signed, Nat.shiftLeft_eq, Bool.false_eq_true, if_false, if_true, Nat.pow_zero, Nat.mul_one]; omega
  · refine ⟨?_, ?_, ?_⟩
    · rw [cmp_lt]; rfl
      simp only [Ieee.signed, Nat.shiftLeft_eq, Bool.false_eq_true, if_false, if_true, Nat.zero_mul]; omega
    · rw [cmp_lt]
      simp only [Ieee.signed, Nat.shiftLeft_eq, Bool.false_eq_true, if_false, if_true, Nat.pow_zero, Nat.mul_one]; omega
    · rw [cmp_gt]
      simp only [Ieee.signed, Nat.shiftLeft_eq, if_true, Nat.pow_zero, Nat.mul_one]; omega

/-- How a great number stands to 0, to 2 ^ 52 and to its opposite. -/
theorem great_orders {x m e : Nat} {s : Bool} (h0 : 4503599627370496 ≤ m) (hx : Ieee.double.read x = .number s m (e : Int)) :
    FloatKind.f64.format.order x 0 = some (if s then .lt else .gt) ∧ (s = false → FloatKind.f64.format.order x 4841369599423283200 = some .gt ∨ FloatKind.f64.format.order x 4841369599423283200 = some .eq) ∧ (s = true → FloatKind.f64.format.order x 4841369599423283200 = some .lt ∧ (FloatKind.f64.format.order x 14064741636278059008 = some .lt ∨ FloatKind.f64.format.order x 14064741636278059008 = some .eq)) := by
  have hq : 0 < 2 ^ (e + 1074) := Nat.two_pow_pos _
  have hp : 0 < 2 ^ e := Nat.two_pow_pos _
  have hm : 0 < m * 2 ^ (e + 1074) := Nat.mul_pos (by omega) hq
  have hm1 : 4503599627370496 ≤ m * 2 ^ e := Nat.le_trans h0 (Nat.le_mul_of_pos_right _ hp)
  have e0 : ((e : Int) - min (e : Int) (-1074)).toNat = e + 1074 := by omega
  have e1 : ((e : Int) - min (e : Int) 0).toNat = e := by omega
  have e2 : ((0 : Int) - min (e : Int) 0).toNat = 0 := by omega
  simp only [order_def, hx, read_0, read_c, read_cn, Ieee.Datum.order, e0, e1, e2]
  cases s
  · refine ⟨?_, fun _ => ?_, fun h => by cases h⟩
    · rw [cmp_gt]; rfl
      simp only [Ieee.signed, Nat.shiftLeft_eq, Bool.false_eq_true, if_false, Nat.zero_mul]; omega
    · by_cases h : m * 2 ^ e = 4503599627370496
      · right
        simp only [Ieee.signed, Nat.shiftLeft_eq, h]
        decide
      · left
        rw [cmp_gt]
        simp only [Ieee.signed, Nat.shiftLeft_eq, Bool.false_eq_true, if_false, Nat.pow_zero, Nat.mul_one]; omega
  · refine ⟨?_, (fun h => by cases h), fun _ => ⟨?_, ?_⟩⟩
    · rw [cmp_lt]; rfl
      simp only [Ieee.signed, Nat.shiftLeft_eq, Bool.false_eq_true, if_false, if_true, Nat.zero_mul]; omega
    · rw [cmp_lt]
      simp only [Ieee.signed, Nat.shiftLeft_eq, Bool.false_eq_true, if_false, if_true, Nat.pow_zero, Nat.mul_one]; omega
    · by_cases h : m * 2 ^ e = 4503599627370496
      · right
        simp only [Ieee.signed, Nat.shiftLeft_eq, h]
        decide
      · left
        rw [cmp_lt]
        simp only [Ieee.signed, Nat.shiftLeft_eq, if_true, Nat.pow_zero, Nat.mul_one]; omega

theorem rFl (op : BinOp) {x y r : Nat} (h : floatBits op .f64 x y = some r) (t : TypeId) (w : World) : (binOp op t (.float .f64 x) (.float .f64 y)).run Try.prog w = .ok (.float .f64 r) w := run_float_arith w op t .f64 x y r h

set_option maxHeartbeats 1000000 in
theorem near_spec (x : Nat) (hx : x < 18446744073709551616) (w : World) : Calls Try.prog 8 #[.float .f64 x] w fun e w' => (∃ r, e = .returned (.float .f64 r) ∧ cn r = cnear x) ∧ w' = w := by
  rcases read_cases x hx with h | ⟨s, h, hw⟩ | ⟨s, h, hw⟩ | ⟨s, m, d, hd, hd1, h0, h1, h2, h, hw⟩ | ⟨s, m, e, he, h0, h1, h, hw⟩
  · have o1 := order_nan h
    have hc : cn x = cnear x := by rw [cn_none h]; simp [cnear, h]
    have HC : Hid _ := hc
    clear h hx hc
    go_enter Try.func8, Try.ntmps8
    go_wp2
    go_ret
    exact ⟨⟨_, rfl, HC.out⟩, rfl⟩
  · have o1 := order_same (x := x) (by rw [h]; rfl)
    have hc : cn x = cnear x := by rw [cn_some (by rw [h]; rfl)]; simp only [cnear, h]; rw [hw]; cases s <;> rfl
    have HC : Hid _ := hc
    clear hx hc
    cases s
    · have o2 : FloatKind.f64.format.order x 0 = some .gt := by rw [order_def, h, read_0]; rfl
      have o3 : FloatKind.f64.format.order x 4841369599423283200 = some .gt := by rw [order_def, h, read_c]; rfl
      clear h hw
      go_enter Try.func8, Try.ntmps8
      go_wp2
      go_ret
      exact ⟨⟨_, rfl, HC.out⟩, rfl⟩
    · have o2 : FloatKind.f64.format.order x 0 = some .lt := by rw [order_def, h, read_0]; rfl
      have o3 : FloatKind.f64.format.order x 4841369599423283200 = some .lt := by rw [order_def, h, read_c]; rfl
      have o4 : FloatKind.f64.format.order x 14064741636278059008 = some .lt := by rw [order_def, h, read_cn]; rfl
      clear h hw
      go_enter Try.func8, Try.ntmps8
      go_wp2
      go_ret
      exact ⟨⟨_, rfl, HC.out⟩, rfl⟩
  · have o1 := order_same (x := x) (by rw [h]; rfl)
    have o2 : FloatKind.f64.format.order x 0 = some .eq := by rw [order_def, h, read_0]; cases s <;> decide
    have hc : cn x = cnear x := by rw [cn_some (by rw [h]; rfl)]; simp only [cnear, h]; rw [hw]; cases s <;> rfl
    have HC : Hid _ := hc
    clear h hw hx hc
    go_enter Try.func8, Try.ntmps8
    go_wp2
    go_ret
    exact ⟨⟨_, rfl, HC.out⟩, rfl⟩
  · have o1 := order_same (x := x) (by rw [h]; rfl)
    obtain ⟨o2, o3, o4⟩ := small_orders hd1 hd h0 h1 h
    have hm : m < 4503599627370496 * 2 ^ d := by
      have hp : 2 ^ 1 ≤ 2 ^ d := Nat.pow_le_pow_right (by decide) hd1
      omega
    have hq := rne_le m d 4503599627370496 (by omega)
    have b2 := rFl .sub (whole_back (rne m d) hq)
    have hc : cn (Ieee.double.nearest s (rne m d) 0) = cnear x := by
      have hnn : (Ieee.double.read (Ieee.double.nearest s (rne m d) 0)).isNaN = false := write_not_nan (.number s (rne m d) 0) rfl
      rw [cn_some hnn]
      simp only [cnear, h, Ieee.Datum.integral, cut_even]
      have e1 : (-(d : Int)).toNat = 0 := by omega
      have e2 : (- -(d : Int)).toNat = d := by omega
      rw [e1, e2, Nat.shiftLeft_zero]
      rfl
    have HC : Hid _ := hc
    clear hx hc hw
    cases s
    · have b1 := rFl .add (plus_c h hd hm)
      simp only [Bool.false_eq_true, if_false] at o2
      clear h h0 h1 h2 hm hq
      go_enter Try.func8, Try.ntmps8
      go_wp2
      go_ret
      exact ⟨⟨_, rfl, HC.out⟩, rfl⟩
    · have b1 := rFl .sub (c_minus h hd hm)
      have hn := nearest_neg (rne m d) 0
      have hun : ∀ b w, (Op.unary .neg (.float .f64 b)).run Try.prog w = .ok (.float .f64 (Op.negFloat .f64 b)) w := fun _ _ => rfl
      simp only [if_true] at o2
      clear h h0 h1 h2 hm hq
      go_enter Try.func8, Try.ntmps8
      go_wp2
      go_ret
      exact ⟨⟨_, rfl, HC.out⟩, rfl⟩
  · have o1 := order_same (x := x) (by rw [h]; rfl)
    obtain ⟨o2, o3, o4⟩ := great_orders h0 h
    have hc : cn x = cnear x := by
      rw [cn_some (by rw [h]; rfl)]
      simp only [cnear, h, Ieee.Datum.integral, cut_even]
      have e1 : ((e : Int)).toNat = e := by omega
      have e2 : (-(e : Int)).toNat = 0 := by omega
      have e3 : rne (m <<< e) 0 = m <<< e := by unfold rne; simp [Nat.mod_one]
      rw [e1, e2, e3]
      show some x = some (Ieee.double.nearest s (m <<< e) 0)
      rw [nearest_great s m e he h0 h1, hw]
    have HC : Hid _ := hc
    clear hx hc hw h
    cases s
    · simp only [Bool.false_eq_true, if_false] at o2
      rcases o3 rfl with o3 | o3
      all_goals
        clear o4
        go_enter Try.func8, Try.ntmps8
        go_wp2
        go_ret
        exact ⟨⟨_, rfl, HC.out⟩, rfl⟩
    · simp only [if_true] at o2
      obtain ⟨o5, o6⟩ := o4 rfl
      clear o3 o4
      rcases o6 with o6 | o6
      all_goals
        go_enter Try.func8, Try.ntmps8
        go_wp2
        go_ret
        exact ⟨⟨_, rfl, HC.out⟩, rfl⟩
end Go.Proofs.Ytcmjhgijejmiaaa
