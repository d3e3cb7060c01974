/- QH1 QH2 QH3. -/
import Derived.Test.YtddbekacdfohpaaGreatDoorM15
import Derived.Test.YtddbekacdfohpaaGreatDoorM19
import Derived.Test.YtddbekacdfohpaaGreatDoorM18
import Derived.Laws.Externs
namespace Go.Proofs.YtddbekacdfohpaaGreatDoor.Q
open Go.RowKit

theorem dbl : Frm 3 64 53 1023 9223372036854775808 18446744073709551616 4503599627370496 2048 := Or.inr (Or.inr ⟨rfl, rfl, rfl, rfl, rfl, rfl, rfl, rfl⟩)

theorem word_sign (s : Bool) {k : Nat} (h : k < 9223372036854775808) : ((Ieee.double.word s k : Nat) : Int) / 9223372036854775808 = (if s then 1 else 0) ∧ Ieee.double.word s k < 18446744073709551616 := by
  unfold Ieee.Format.word
  rw [e_sign]
  cases s
  · rw [if_neg (by decide), if_neg (by decide)]; omega
  · rw [if_pos rfl, if_pos rfl]; omega

theorem word_low (s : Bool) (k : Nat) : Ieee.double.word s k % 9223372036854775808 = k % 9223372036854775808 := by
  unfold Ieee.Format.word
  rw [e_sign]
  cases s
  · rw [if_neg (by decide)]
  · rw [if_pos rfl]; omega

theorem sgn_eq (s : Bool) {x : Int} (h : x / 9223372036854775808 = (if s then 1 else 0)) : (x / 9223372036854775808 == 1) = s := by
  rw [h]; cases s <;> rfl

theorem unp_inf (s : Bool) (w : World) : Calls Tryz.prog 88 #[.int .i64 3, .int .u64 (Ieee.double.word s 9218868437227405312 : Nat)] w fun e w' => e = .returned (.agg #[.int .i64 2, .bool s, .int .i64 0, .int .u64 0]) ∧ Below w.heap.size w w' := by
  obtain ⟨h1, h2⟩ := word_sign s (show 9218868437227405312 < 9223372036854775808 by decide)
  have h3 := word_low s 9218868437227405312
  have := sunpack_inf dbl (Ieee.double.word s 9218868437227405312 : Nat) w (by omega) (by omega) (by omega) (by simp; omega)
  rw [sgn_eq s h1] at this
  exact this

theorem unp_zero (s : Bool) (w : World) : Calls Tryz.prog 88 #[.int .i64 3, .int .u64 (Ieee.double.word s 0 : Nat)] w fun e w' => e = .returned (.agg #[.int .i64 0, .bool s, .int .i64 0, .int .u64 0]) ∧ Below w.heap.size w w' := by
  obtain ⟨h1, h2⟩ := word_sign s (show 0 < 9223372036854775808 by decide)
  have h3 := word_low s 0
  have := sunpack_zero dbl (Ieee.double.word s 0 : Nat) w (by omega) (by omega) (by omega) (by simp; omega)
  rw [sgn_eq s h1] at this
  exact this

theorem unp_nan {x : Nat} (hx : x < 18446744073709551616) (h : (Ieee.double.read x).isNaN = true) (w : World) : Calls Tryz.prog 88 #[.int .i64 3, .int .u64 (x : Nat)] w fun e w' => e = .returned (.agg #[.int .i64 3, .bool false, .int .i64 0, .int .u64 0]) ∧ Below w.heap.size w w' := by
  have h1 : 9218868437227405312 < x % 9223372036854775808 := by
    unfold Ieee.Format.read at h
    simp only [e_sign, e_bin, e_inf, e_least] at h
    split at h
    · cases h
    · split at h
      · cases h
      · split at h
        · cases h
        · omega
  exact sunpack_nan dbl (x : Nat) w (by omega) (by omega) (by omega) (by simp; omega)

/-- A finite number that is not 0: an odd number times a power of two. -/
theorem unp_fin {x : Nat} (hx : x < 18446744073709551616) {s : Bool} {m : Nat} {p : Int} (h : Ieee.double.read x = .number s m p) (h0 : m ≠ 0) (w : World) :
    Calls Tryz.prog 88 #[.int .i64 3, .int .u64 (x : Nat)] w fun e w' => ∃ k M : Nat, M * 2 ^ k = m ∧ e = .returned (.agg #[.int .i64 1, .bool s, .int .i64 (p + k), .int .u64 (M : Nat)]) ∧ Below w.heap.size w w' := by
  have conv : ∀ (v man : Int) (k : Nat), Tz v man k → v = (m : Int) → ∃ M : Nat, man = (M : Int) ∧ M * 2 ^ k = m := by
    intro v man k ht hv
    have h1 := ht.pos
    obtain ⟨M, rfl⟩ := Int.eq_ofNat_of_zero_le (show 0 ≤ man by omega)
    refine ⟨M, rfl, ?_⟩
    have h2 := ht.eq
    rw [hv, ← Int.natCast_mul] at h2
    exact (Int.ofNat.inj h2).symm
  rcases read_cases x hx with h1 | ⟨s1, h1, _⟩ | ⟨s1, h1, hw⟩ | ⟨s1, m1, d, hd, hd1, g0, g2, g3, h1, hw⟩ | ⟨s1, m1, e, he, g0, g2, h1, hw⟩
  · rw [h] at h1; cases h1
  · rw [h] at h1; cases h1
  · rw [h] at h1
    cases h1
    exact absurd rfl h0
  · rw [h] at h1
    cases h1
    obtain ⟨s1, s2⟩ := word_sign s (show (1074 - d) * 4503599627370496 + m < 9223372036854775808 by omega)
    have s3 := word_low s ((1074 - d) * 4503599627370496 + m)
    rw [← hw] at s1 s2 s3
    by_cases c : 4503599627370496 ≤ m
    · have hX : (x : Int) / 4503599627370496 % 2048 = 1075 - d := by omega
      have hm : (x : Int) % 4503599627370496 + 4503599627370496 = m := by omega
      refine (sunpack_norm dbl (x : Nat) w (by omega) (by omega) (by omega) (by omega)).mono ?_
      rintro e w' ⟨k, man, ht, _, rfl, hb⟩
      obtain ⟨M, rfl, hM⟩ := conv _ _ _ ht hm
      refine ⟨k, M, hM, ?_, hb⟩
      rw [sgn_eq s s1, hX, show (1075 : Int) - d - 1023 - 53 + 1 + k = -(d : Int) + k by omega]
    · have hX : (x : Int) / 4503599627370496 % 2048 = 0 := by omega
      have hm : (x : Int) % 4503599627370496 = m := by omega
      refine (sunpack_low dbl (x : Nat) w (by omega) (by omega) hX (by simp; omega)).mono ?_
      rintro e w' ⟨k, man, ht, _, rfl, hb⟩
      obtain ⟨M, rfl, hM⟩ := conv _ _ _ ht hm
      refine ⟨k, M, hM, ?_, hb⟩
      rw [sgn_eq s s1, show (2 : Int) - 1023 - 53 + k = -(d : Int) + k by omega]
  · rw [h] at h1
    cases h1
    obtain ⟨s1, s2⟩ := word_sign s (show (1074 + e) * 4503599627370496 + m < 9223372036854775808 by omega)
    have s3 := word_low s ((1074 + e) * 4503599627370496 + m)
    rw [← hw] at s1 s2 s3
    have hX : (x : Int) / 4503599627370496 % 2048 = 1075 + e := by omega
    have hm : (x : Int) % 4503599627370496 + 4503599627370496 = m := by omega
    refine (sunpack_norm dbl (x : Nat) w (by omega) (by omega) (by omega) (by omega)).mono ?_
    rintro e' w' ⟨k, man, ht, _, rfl, hb⟩
    obtain ⟨M, rfl, hM⟩ := conv _ _ _ ht hm
    refine ⟨k, M, hM, ?_, hb⟩
    rw [sgn_eq s s1, hX, show (1075 : Int) + e - 1023 - 53 + 1 + k = (e : Int) + k by omega]
end Go.Proofs.YtddbekacdfohpaaGreatDoor.Q

namespace Go.Proofs.YtddbekacdfohpaaGreatDoor.Q
open Go.RowKit

theorem rFl (op : BinOp) {x y r : Nat} (h : floatBits op .f64 x y = some r) (t : TypeId) (w : World) : (binOp op t (.float .f64 x) (.float .f64 y)).run Tryz.prog w = .ok (.float .f64 r) w := run_float_arith w op t .f64 x y r h

theorem rNeg (b : Nat) (w : World) : (Op.unary .neg (.float .f64 b)).run Tryz.prog w = .ok (.float .f64 (Op.negFloat .f64 b)) w := rfl

theorem bstep {w w1 w2 : World} (h1 : Below w.heap.size w w1) (h2 : Below w1.heap.size w1 w2) : Below w.heap.size w w2 := h1.trans (h2.mono h1.size)

theorem zero_neg : Op.negFloat .f64 0 = 9223372036854775808 := by decide

theorem zero_any (s : Bool) (w : World) : Calls Tryz.prog 90 #[.bool s] w fun e w' => e = .returned (.float .f64 (Ieee.double.word s 0)) ∧ w' = w := by
  have hn := rNeg
  have hz := zero_neg
  cases s
  all_goals
    go_enter Tryz.func90, Tryz.ntmps90
    go_wp2
    go_ret
    exact ⟨rfl, rfl⟩

theorem run_quo (x y : Nat) (t : TypeId) (w : World) : (binOp .quo t (.float .f64 x) (.float .f64 y)).run Tryz.prog w = .ok (.float .f64 (fres .quo w x y)) (fwor .quo w x y) := run_fop .quo (by simp) _ t x y w

theorem nan_any (w : World) : Calls Tryz.prog 89 #[] w fun e w' => (∃ r, e = .returned (.float .f64 r) ∧ cn r = none) ∧ Below w.heap.size w w' := by
  have hz := zero_any false
  have hq := run_quo
  go_enter Tryz.func89, Tryz.ntmps89
  go_wp2_with (go_at_call 90; refine (hz _).mono ?_; rintro e w' ⟨rfl, hw⟩; obtain rfl := hw.symm)
  go_ret
  refine ⟨⟨_, rfl, ?_⟩, below_fwor (Below.refl _ _) _ _ _⟩
  rw [cn_fres]
  decide +kernel

theorem inf_quo (s : Bool) : floatBits .quo .f64 4607182418800017408 (Ieee.double.word s 0) = some (Ieee.double.word s 9218868437227405312) := by
  cases s <;> decide +kernel
end Go.Proofs.YtddbekacdfohpaaGreatDoor.Q

namespace Go.Proofs.YtddbekacdfohpaaGreatDoor.Q
open Go.RowKit

theorem of_nat (M : Nat) : floatOfInt .f64 (M : Int) = Ieee.double.nearest false M 0 := by
  show Ieee.double.nearest (decide ((M : Int) < 0)) (M : Int).natAbs 0 = _
  rw [decide_eq_false (by omega), Int.natAbs_natCast]

set_option maxHeartbeats 2000000 in
theorem from_spec (x : Nat) (hx : x < 18446744073709551616) (w : World) : Calls Tryz.prog 68 #[.int .u64 (x : Nat)] w fun e w' => (∃ r, e = .returned (.float .f64 r) ∧ cn r = cn x) ∧ Below w.heap.size w w' := by
  rcases read_cases x hx with h | ⟨s, h, hw⟩ | ⟨s, h, hw⟩ | h
  · have hu := unp_nan hx h w
    have hn := nan_any
    have hc : cn x = none := cn_none h
    rw [hc]
    go_enter Tryz.func68, Tryz.ntmps68
    go_wp2_with (first
      | (go_at_call 88; refine hu.mono ?_; rintro e w1 ⟨rfl, hb⟩)
      | (go_at_call 89; refine (hn _).mono ?_; rintro e w2 ⟨⟨r, rfl, hr⟩, hb2⟩; have HR : Hid _ := hr; clear hr))
    go_ret
    exact ⟨⟨_, rfl, HR.out⟩, bstep (hb.alloc hb.size _) hb2⟩
  · have hu := unp_inf s w
    have hz := zero_any s
    have hq := inf_quo s
    rw [← hw] at hu hq
    have hq := rFl .quo hq
    have hc : cn x = some x := cn_some (by rw [h]; rfl)
    have HC : Hid _ := hc
    clear h hc hw hx
    go_enter Tryz.func68, Tryz.ntmps68
    go_wp2_with (first
      | (go_at_call 88; refine hu.mono ?_; rintro e w1 ⟨rfl, hb⟩)
      | (go_at_call 90; refine (hz _).mono ?_; rintro e w' ⟨rfl, hw⟩; obtain rfl := hw.symm))
    go_ret
    exact ⟨⟨_, rfl, rfl⟩, hb.alloc hb.size _⟩
  · have hu := unp_zero s w
    have hz := zero_any s
    rw [← hw] at hu hz
    clear h hw hx
    go_enter Tryz.func68, Tryz.ntmps68
    go_wp2_with (first
      | (go_at_call 88; refine hu.mono ?_; rintro e w1 ⟨rfl, hb⟩)
      | (go_at_call 90; refine (hz _).mono ?_; rintro e w' ⟨rfl, hw⟩; obtain rfl := hw.symm))
    go_ret
    exact ⟨⟨_, rfl, rfl⟩, hb.alloc hb.size _⟩
  · obtain ⟨s, m, p, h0, h1, h2, h3, h⟩ : ∃ (s : Bool) (m : Nat) (p : Int), m ≠ 0 ∧ m < 9007199254740992 ∧ -1074 ≤ p ∧ p ≤ 971 ∧ Ieee.double.read x = .number s m p := by
      rcases h with ⟨s, m, d, a1, a2, a3, a4, a5, a6, a7⟩ | ⟨s, m, e, a1, a2, a3, a4, a5⟩
      · exact ⟨s, m, _, by omega, a4, by omega, by omega, a6⟩
      · exact ⟨s, m, _, by omega, a3, by omega, by omega, a4⟩
    have hu : Calls Tryz.prog 88 #[.int .i64 3, .int .u64 (x : Nat)] w fun e w' => ∃ (M : Nat) (E : Int), (M ≠ 0 ∧ M < 9007199254740992 ∧ -1074 ≤ E ∧ E + M.log2 ≤ 1023 ∧ Ieee.double.nearest s M E = x) ∧ e = .returned (.agg #[.int .i64 1, .bool s, .int .i64 E, .int .u64 (M : Nat)]) ∧ Below w.heap.size w w' := by
      refine (unp_fin hx h h0 w).mono ?_
      rintro e w1 ⟨k, M, hM, rfl, hb⟩
      have hp : 0 < 2 ^ k := Nat.two_pow_pos k
      have hM0 : M ≠ 0 := by rintro rfl; rw [Nat.zero_mul] at hM; exact h0 hM.symm
      have hMle : M ≤ m := by rw [← hM]; exact Nat.le_mul_of_pos_right _ hp
      have hL := log2_scale M k hM0
      have hm52 : m.log2 ≤ 52 := by
        have := (Nat.log2_lt h0).2 (show m < 2 ^ 53 by omega)
        omega
      rw [hM] at hL
      refine ⟨M, p + k, ⟨hM0, by omega, by omega, by omega, ?_⟩, rfl, hb⟩
      have e1 := nearest_scale s M k (p + k)
      rw [hM, show p + (k : Int) - k = p by omega, write_read hx h] at e1
      exact e1.symm
    have hc : cn x = some x := cn_some (by rw [h]; rfl)
    rw [hc]
    have HC : Hid (cn x = some x) := hc
    clear hc h h0 h1 h2 h3
    have hof := of_nat
    have hn := rNeg
    go_enter Tryz.func68, Tryz.ntmps68
    go_wp2_with (first
      | (go_at_call 88; refine hu.mono ?_; rintro e w1 ⟨M, E, ⟨hM0, hM1, hE0, hE1, hX⟩, rfl, hb⟩; have HX : Hid _ := hX; clear hX))
    have hM2 : E ≤ 1023 := by omega
    have hM3 : M.log2 ≤ 52 := by
      have := (Nat.log2_lt hM0).2 (show M < 2 ^ 53 by omega)
      omega
    go_loopw [4, 5] (fun v i wr => ∃ j : Nat, v = .float .f64 (Ieee.double.nearest false M j) ∧ i = .int .i64 (E - j) ∧ (j : Int) ≤ max E 0 ∧ wr = w1.alloc (Obj.cells #[Value.int IntKind.i64 1, Value.bool s, Value.int IntKind.i64 E, Value.int IntKind.u64 M] 101)) (fun _ i _ => (intOf i).toNat)
    case atStart => exact ⟨0, rfl, by simp, by omega, rfl⟩
    case round =>
      obtain ⟨j, rfl, rfl, hj, rfl⟩ := hrel
      by_cases c : 0 < E - j
      · have ht := rFl .mul (twice false M j hM0 hM1 (by omega) (by omega))
        go_wp2
        go_roundw
        case rel => exact ⟨j + 1, rfl, by go_num, by omega, trivial⟩
        case measure => simp [intOf]; omega
      · go_wp2
        go_loopw [4, 6] (fun v i wr => ∃ q : Nat, v = .float .f64 (Ieee.double.nearest false M ((j : Int) - q)) ∧ i = .int .i64 (E + q) ∧ (q : Int) ≤ max (-E) 0 ∧ wr = w1.alloc (Obj.cells #[Value.int IntKind.i64 1, Value.bool s, Value.int IntKind.i64 E, Value.int IntKind.u64 M] 101)) (fun _ i _ => (-(intOf i)).toNat)
        case atStart => exact ⟨0, by simp, by simp, by omega, rfl⟩
        case round =>
          obtain ⟨q, rfl, rfl, hq, rfl⟩ := hrel
          by_cases c2 : E + q < 0
          · have ht := rFl .quo (half false M ((j : Int) - q) hM0 hM1 (by omega) (by omega))
            go_wp2
            go_roundw
            case rel => exact ⟨q + 1, by rw [show (j : Int) - ((q + 1 : Nat) : Int) = (j : Int) - q - 1 by omega], by go_num, by omega, trivial⟩
            case measure => simp [intOf]; omega
          · have hjq : (j : Int) - q = E := by omega
            rw [hjq]
            have hng := nearest_neg M E
            cases s
            · go_wp2
              go_ret
              refine ⟨⟨_, rfl, ?_⟩, hb.alloc hb.size _⟩
              rw [HX.out]
              exact HC.out
            · go_wp2
              go_ret
              refine ⟨⟨_, rfl, ?_⟩, hb.alloc hb.size _⟩
              rw [HX.out]
              exact HC.out
end Go.Proofs.YtddbekacdfohpaaGreatDoor.Q
