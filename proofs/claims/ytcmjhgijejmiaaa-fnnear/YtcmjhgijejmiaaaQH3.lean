/- The model's FromBits. -/
import Derived.Test.YtcmjhgijejmiaaaQH2
namespace Go.Proofs.Ytcmjhgijejmiaaa.Q
open Go.RowKit

theorem of_nat (M : Nat) : floatOfInt .f64 (M : Int) = Ieee.double.nearest false M 0 := by
  show Ieee.double.nearest (decide ((M : Int) < 0)) (M : Int).natAbs 0 = _
  rw [decide_eq_false (by omega), Int.natAbs_natCast]

set_option maxHeartbeats 2000000 in
theorem from_spec (x : Nat) (hx : x < 18446744073709551616) (w : World) : Calls Try.prog 17 #[.int .u64 (x : Nat)] w fun e w' => (∃ r, e = .returned (.float .f64 r) ∧ cn r = cn x) ∧ Below w.heap.size w w' := by
  rcases read_cases x hx with h | ⟨s, h, hw⟩ | ⟨s, h, hw⟩ | h
  · have hu := unp_nan hx h w
    have hn := nan_any
    have hc : cn x = none := cn_none h
    rw [hc]
    go_enter Try.func17, Try.ntmps17
    go_wp2_with (first
      | (go_at_call 23; refine hu.mono ?_; rintro e w1 ⟨rfl, hb⟩)
      | (go_at_call 24; refine (hn _).mono ?_; rintro e w2 ⟨⟨r, rfl, hr⟩, hb2⟩; have HR : Hid _ := hr; clear hr))
    go_ret
    exact ⟨⟨_, rfl, HR.out⟩, bstep (hb.alloc hb.size _) hb2⟩
  · have hu := unp_inf s w
    have hz := zero_any s
    have hq := inf_quo s
    rw [← hw] at hu hq
    have hq := rFl .quo hq
    have hc : cn x = some x := cn_some (by rw [h]; rfl)
    have HC : Hid _ := hc
    clear h hc hw hx
    go_enter Try.func17, Try.ntmps17
    go_wp2_with (first
      | (go_at_call 23; refine hu.mono ?_; rintro e w1 ⟨rfl, hb⟩)
      | (go_at_call 25; refine (hz _).mono ?_; rintro e w' ⟨rfl, hw⟩; obtain rfl := hw.symm))
    go_ret
    exact ⟨⟨_, rfl, rfl⟩, hb.alloc hb.size _⟩
  · have hu := unp_zero s w
    have hz := zero_any s
    rw [← hw] at hu hz
    clear h hw hx
    go_enter Try.func17, Try.ntmps17
    go_wp2_with (first
      | (go_at_call 23; refine hu.mono ?_; rintro e w1 ⟨rfl, hb⟩)
      | (go_at_call 25; refine (hz _).mono ?_; rintro e w' ⟨rfl, hw⟩; obtain rfl := hw.symm))
    go_ret
    exact ⟨⟨_, rfl, rfl⟩, hb.alloc hb.size _⟩
  · obtain ⟨s, m, p, h0, h1, h2, h3, h⟩ : ∃ (s : Bool) (m : Nat) (p : Int), m ≠ 0 ∧ m < 9007199254740992 ∧ -1074 ≤ p ∧ p ≤ 971 ∧ Ieee.double.read x = .number s m p := by
      rcases h with ⟨s, m, d, a1, a2, a3, a4, a5, a6, a7⟩ | ⟨s, m, e, a1, a2, a3, a4, a5⟩
      · exact ⟨s, m, _, by omega, a4, by omega, by omega, a6⟩
      · exact ⟨s, m, _, by omega, a3, by omega, by omega, a4⟩
    have hu : Calls Try.prog 23 #[.int .i64 3, .int .u64 (x : Nat)] w fun e w' => ∃ (M : Nat) (E : Int), (M ≠ 0 ∧ M < 9007199254740992 ∧ -1074 ≤ E ∧ E + M.log2 ≤ 1023 ∧ Ieee.double.nearest s M E = x) ∧ e = .returned (.agg #[.int .i64 1, .bool s, .int .i64 E, .int .u64 (M : Nat)]) ∧ Below w.heap.size w w' := by
      refine (unp_fin hx h h0 w).mono ?_
      rintro e w1 ⟨k, M, hM, rfl, hb⟩
      have hp : 0 < 2 ^ k := Nat.two_pow_pos k
      have hM0 : M ≠ 0 := by rintro rfl; rw [Nat.zero_mul] at hM; exact h0 hM.symm
      have hMle : M ≤ m := by rw [← hM]; exact Nat.le_mul_of_pos_right _ hp
      have hL := log2_scale M k hM0
      have hm52 : m.log2 ≤ 52 := by
        have := (Nat.log2_lt h0).2 (show m < 2 ^ 53 by omega)
        omega
      rw [hM] at hL
      refine ⟨M, p + k, ⟨hM0, by omega, by omega, by omega, ?_⟩, rfl, hb⟩
      have e1 := nearest_scale s M k (p + k)
      rw [hM, show p + (k : Int) - k = p by omega, write_read hx h] at e1
      exact e1.symm
    have hc : cn x = some x := cn_some (by rw [h]; rfl)
    rw [hc]
    have HC : Hid (cn x = some x) := hc
    clear hc h h0 h1 h2 h3
    have hof := of_nat
    have hn := rNeg
    go_enter Try.func17, Try.ntmps17
    go_wp2_with (first
      | (go_at_call 23; refine hu.mono ?_; rintro e w1 ⟨M, E, ⟨hM0, hM1, hE0, hE1, hX⟩, rfl, hb⟩; have HX : Hid _ := hX; clear hX))
    have hM2 : E ≤ 1023 := by omega
    have hM3 : M.log2 ≤ 52 := by
      have := (Nat.log2_lt hM0).2 (show M < 2 ^ 53 by omega)
      omega
    go_loopw [4, 5] (fun v i wr => ∃ j : Nat, v = .float .f64 (Ieee.double.nearest false M j) ∧ i = .int .i64 (E - j) ∧ (j : Int) ≤ max E 0 ∧ wr = w1.alloc (Obj.cells #[Value.int IntKind.i64 1, Value.bool s, Value.int IntKind.i64 E, Value.int IntKind.u64 M] 46)) (fun _ i _ => (intOf i).toNat)
    case atStart => exact ⟨0, rfl, by simp, by omega, rfl⟩
    case round =>
      obtain ⟨j, rfl, rfl, hj, rfl⟩ := hrel
      by_cases c : 0 < E - j
      · have ht := rFl .mul (twice false M j hM0 hM1 (by omega) (by omega))
        go_wp2
        go_roundw
        case rel => exact ⟨j + 1, rfl, by go_num, by omega, trivial⟩
        case measure => simp [intOf]; omega
      · go_wp2
        go_loopw [4, 6] (fun v i wr => ∃ q : Nat, v = .float .f64 (Ieee.double.nearest false M ((j : Int) - q)) ∧ i = .int .i64 (E + q) ∧ (q : Int) ≤ max (-E) 0 ∧ wr = w1.alloc (Obj.cells #[Value.int IntKind.i64 1, Value.bool s, Value.int IntKind.i64 E, Value.int IntKind.u64 M] 46)) (fun _ i _ => (-(intOf i)).toNat)
        case atStart => exact ⟨0, by simp, by simp, by omega, rfl⟩
        case round =>
          obtain ⟨q, rfl, rfl, hq, rfl⟩ := hrel
          by_cases c2 : E + q < 0
          · have ht := rFl .quo (half false M ((j : Int) - q) hM0 hM1 (by omega) (by omega))
            go_wp2
            go_roundw
            case rel => exact ⟨q + 1, by rw [show (j : Int) - ((q + 1 : Nat) : Int) = (j : Int) - q - 1 by omega], by go_num, by omega, trivial⟩
            case measure => simp [intOf]; omega
          · have hjq : (j : Int) - q = E := by omega
            rw [hjq]
            have hng := nearest_neg M E
            cases s
            · go_wp2
              go_ret
              refine ⟨⟨_, rfl, ?_⟩, hb.alloc hb.size _⟩
              rw [HX.out]
              exact HC.out
            · go_wp2
              go_ret
              refine ⟨⟨_, rfl, ?_⟩, hb.alloc hb.size _⟩
              rw [HX.out]
              exact HC.out
end Go.Proofs.Ytcmjhgijejmiaaa.Q
