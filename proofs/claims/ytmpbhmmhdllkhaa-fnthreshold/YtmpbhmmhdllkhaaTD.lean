/- FnThreshold: the draw and the law. -/
import Derived.Test.YtmpbhmmhdllkhaaTL
import Derived.Test.YtmpbhmmhdllkhaaD1
namespace Go.Proofs.Ytmpbhmmhdllkhaa
open Go.RowKit

theorem pk0 {W : World} {c : Nat} {a : Option Addr} {len cap : Nat} (h : Cu W c a len cap) :
    Calls Try.prog 10 #[.pointer (some ⟨c, 0, none⟩), .slice (some ⟨W.heap.size, 0, none⟩) 10 10] (W.alloc (.cells #[.int .i64 0, .int .i64 1, .int .i64 2, .int .i64 5, .int .i64 8, .int .i64 20, .int .i64 33, .int .i64 60, .int .i64 61, .int .i64 (-1)] 3)) fun e w' => ∃ x : Int, e = .returned (.int .i64 x) ∧ Cu w' c a len cap ∧ Keep c W w' :=
  pick_lit [0, 1, 2, 5, 8, 20, 33, 60, 61, -1] (by simp) (by simp) h

theorem pk1 {W : World} {c : Nat} {a : Option Addr} {len cap : Nat} (h : Cu W c a len cap) :
    Calls Try.prog 10 #[.pointer (some ⟨c, 0, none⟩), .slice (some ⟨W.heap.size, 0, none⟩) 7 7] (W.alloc (.cells #[.int .i64 1, .int .i64 2, .int .i64 5, .int .i64 100, .int .i64 1000, .int .i64 0, .int .i64 1001] 3)) fun e w' => ∃ x : Int, e = .returned (.int .i64 x) ∧ Cu w' c a len cap ∧ Keep c W w' :=
  pick_lit [1, 2, 5, 100, 1000, 0, 1001] (by simp) (by simp) h

theorem pk2 {W : World} {c : Nat} {a : Option Addr} {len cap : Nat} (h : Cu W c a len cap) :
    Calls Try.prog 10 #[.pointer (some ⟨c, 0, none⟩), .slice (some ⟨W.heap.size, 0, none⟩) 8 8] (W.alloc (.cells #[.int .i64 1, .int .i64 10, .int .i64 100, .int .i64 1000, .int .i64 3, .int .i64 7, .int .i64 0, .int .i64 1001] 3)) fun e w' => ∃ x : Int, e = .returned (.int .i64 x) ∧ Cu w' c a len cap ∧ Keep c W w' :=
  pick_lit [1, 10, 100, 1000, 3, 7, 0, 1001] (by simp) (by simp) h

set_option maxHeartbeats 4000000 in
theorem dthr_x {w : World} {a : Option Addr} {len cap : Nat} (hr : Row w a len) (hl : len ≤ 1048576) :
    Calls Try.prog 5 #[.slice a len cap] w fun e w' => ∃ (i j k : Int), e = .returned (.tuple #[.int .i64 i, .int .i64 j, .int .i64 k]) ∧ Below w.heap.size w w' := by
  have HR : Hid (Row w a len) := hr
  clear hr
  obtain ⟨c, hcd⟩ : ∃ c, w.heap.size = c := ⟨_, rfl⟩
  have HN : Hid (Calls Try.prog 9 #[.slice a len cap] w fun e w' => e = .returned (.pointer (some ⟨c, 0, none⟩)) ∧ Cu w' c a len cap ∧ Below w.heap.size w w') := by have := new_x (cap := cap) HR.out (by omega); rw [← hcd]; exact this
  have HCD : Hid (w.heap.size ≤ c) := Nat.le_of_eq hcd
  clear hcd
  go_enter Try.func5, Try.ntmps5
  go_wp2_with (first
    | (go_at_call 9; refine HN.out.mono ?_; rintro e w1 ⟨rfl, hc, hb⟩; have CU : Hid (Cu w1 c a len cap) := hc; have B1 : Hid (Below w.heap.size w w1) := hb; have KE : Hid (Keep c w1 w1) := Keep.refl _ _; clear hc hb)
    | (go_at_call 10; (fail_if_success have := M1); (with_reducible refine (pk0 CU.out).mono ?_); rintro e w2 ⟨x0, rfl, hc, hk⟩; have M1 : Hid True := trivial; have CU : Hid (Cu w2 c a len cap) := hc; have KE : Hid (Keep c w1 w2) := KE.out.trans hk; clear hc hk)
    | (go_at_call 10; have ZZ := M1; (fail_if_success have := M2); (with_reducible refine (pk1 CU.out).mono ?_); rintro e w3 ⟨x1, rfl, hc, hk⟩; have M2 : Hid True := trivial; have CU : Hid (Cu w3 c a len cap) := hc; have KE : Hid (Keep c w1 w3) := KE.out.trans hk; clear hc hk)
    | (go_at_call 10; have ZZ := M2; (with_reducible refine (pk2 CU.out).mono ?_); rintro e w4 ⟨x2, rfl, hc, hk⟩; have F4 : Hid (Below w.heap.size w w4) := Below.keep B1.out (KE.out.trans hk) HCD.out; clear hc hk))
  refine bodyPost_ret (results_tmp3 rfl _ _ _) rfl ?_
  exact ⟨_, _, _, rfl, F4.out⟩

/-- The threshold of two coins and a quarter. -/
theorem thr_214 (w : World) : Calls Try.prog 6 #[.int .i64 2, .int .i64 1, .int .i64 4] w fun e w' => e = .returned (.tuple #[.int .i64 1, .bool true]) ∧ w' = w :=
  iThr_good (n := 2) (c := 1) (d := 4) (K := 3) (by decide) (by decide) (by decide) (by decide) w

theorem ways_22 (w : World) : Calls Try.prog 8 #[.int .i64 2, .int .i64 2] w fun e w' => e = .returned (.int .i64 1) ∧ w' = w :=
  iWays_good 2 2 (by decide) (by decide) w

set_option maxRecDepth 20000 in
set_option maxHeartbeats 8000000 in
theorem walk_lthr {w : World} {a : Option Addr} {len cap : Nat} (hr : Row w a len) (hlen : len ≤ 9223372036854775807) :
    Calls Try.prog 3 #[.slice a len cap] w fun e w' => e = .returned (.bool true) ∧ Below w.heap.size w w' := by
  have ib := big_x (w := w) a len cap hlen
  by_cases hl : len ≤ 1048576
  · rw [decide_eq_false (by omega)] at ib
    have j0 := dthr_x (cap := cap) hr hl
    clear hr
    have k1 := thr_214
    have k2 := ways_22
    go_enter Try.func3, Try.ntmps3
    go_upto_region 4 with (first
      | (go_at_call 4; (with_reducible refine ib.mono ?_); rintro e w' ⟨rfl, hw⟩; obtain rfl := hw.symm)
      | (go_at_call 5; (with_reducible refine j0.mono ?_); rintro e w1 ⟨n, c, d, rfl, hb⟩; have B1 : Hid (Below w.heap.size w w1) := hb; clear hb))
    clear ib j0
    by_cases h : GTh n c d
    · obtain ⟨n, rfl⟩ : ∃ m : Nat, n = (m : Int) := ⟨n.toNat, by have := h.1; omega⟩
      obtain ⟨c, rfl⟩ : ∃ m : Nat, c = (m : Int) := ⟨c.toNat, by have := h.2.1; omega⟩
      obtain ⟨d, rfl⟩ : ∃ m : Nat, d = (m : Int) := ⟨d.toNat, by have := h.2.2; omega⟩
      obtain ⟨K, h1, h2, h3⟩ := thr_at n c d
      have i1 := iThr_good h h1 h2 h3
      have i2 := sThr_good h h1 h2 h3
      obtain ⟨g1, g2, g3⟩ := h
      obtain ⟨t, ht⟩ : ∃ t, t = -(n : Int) + (K : Int) := ⟨_, rfl⟩
      rw [← ht] at i1 i2
      by_cases h40 : (n : Int) ≤ 40
      · have i3 := iWays_good n t (by omega) (by omega)
        have i4 := iWays_good n (t - 1) (by omega) (by omega)
        have f1 : wys n t * d ≤ c * 2 ^ n := by rw [ht]; exact h3
        have f2 : t = -(n : Int) ∨ ¬ wys n (t - 1) * d ≤ c * 2 ^ n := by
          by_cases e : K = 0
          · left; omega
          · right
            have := h2 (K - 1) (by omega)
            rw [show t - 1 = -(n : Int) + ((K - 1 : Nat) : Int) by omega]
            exact this
        have l0 : 2 ^ n ≤ 1099511627776 := Nat.le_trans (Nat.pow_le_pow_right (by omega) (show n ≤ 40 by omega)) (by decide)
        have l1 := wys_le n t
        have l2 := wys_le n (t - 1)
        have ht1 : -60 ≤ t ∧ t ≤ 61 := by omega
        clear ht h1 h2 h3
        generalize wys n t = V1 at *
        generalize wys n (t - 1) = V2 at *
        obtain ⟨E, hE⟩ : ∃ E : Nat, E = 2 ^ n := ⟨_, rfl⟩
        have e1 : (2 : Int) ^ n = (E : Int) := by rw [hE, Int.natCast_pow]; rfl
        rw [← hE] at l0 l1 l2 f1 f2
        clear hE
        obtain ⟨p0, q0⟩ : ∃ p : Nat, (c : Int) * (E : Int) = (p : Int) ∧ c * E = p ∧ p ≤ 1000 * 1099511627776 := ⟨c * E, (Int.natCast_mul c E).symm, rfl, Nat.mul_le_mul (by omega) l0⟩
        obtain ⟨p1, q1⟩ : ∃ p : Nat, (V1 : Int) * (d : Int) = (p : Int) ∧ V1 * d = p ∧ p ≤ 1099511627776 * 1000 := ⟨V1 * d, (Int.natCast_mul V1 d).symm, rfl, Nat.mul_le_mul (by omega) (by omega)⟩
        obtain ⟨p2, q2⟩ : ∃ p : Nat, (V2 : Int) * (d : Int) = (p : Int) ∧ V2 * d = p ∧ p ≤ 1099511627776 * 1000 := ⟨V2 * d, (Int.natCast_mul V2 d).symm, rfl, Nat.mul_le_mul (by omega) (by omega)⟩
        rw [q0.2.1, q1.2.1] at f1
        rw [q0.2.1, q2.2.1] at f2
        obtain ⟨q00, -, q01⟩ := q0
        obtain ⟨q10, -, q11⟩ := q1
        obtain ⟨q20, -, q21⟩ := q2
        by_cases e0 : t = -(n : Int)
        · have eb : (t == -(n : Int)) = true := by rw [e0]; simp
          have TT : Hid (t = -(n : Int)) := e0
          clear e0 f2
          go_wp2_with (first | (go_at_call 6; (with_reducible refine (i1 _).mono ?_); rintro e w' ⟨rfl, hw⟩; obtain rfl := hw.symm) | (go_at_call 7; (with_reducible refine (i2 _).mono ?_); rintro e w2 ⟨rfl, hb⟩; have B2 : Hid (Below w.heap.size w w2) := bstep B1.out hb; clear hb) | (go_at_call 6; (with_reducible refine (k1 _).mono ?_); rintro e w' ⟨rfl, hw⟩; obtain rfl := hw.symm) | (go_at_call 8; (with_reducible refine (k2 _).mono ?_); rintro e w' ⟨rfl, hw⟩; obtain rfl := hw.symm) | (go_at_call 8; (with_reducible refine (i3 _).mono ?_); rintro e w' ⟨rfl, hw⟩; obtain rfl := hw.symm) | (go_at_call 8; (with_reducible refine (i4 _).mono ?_); rintro e w' ⟨rfl, hw⟩; obtain rfl := hw.symm))
          go_ret
          exact ⟨rfl, B2.out⟩
        · have eb : (t == -(n : Int)) = false := by simpa using e0
          have f3 : p0 < p2 := by rcases f2 with f | f <;> omega
          clear e0 f2
          go_wp2_with (first | (go_at_call 6; (with_reducible refine (i1 _).mono ?_); rintro e w' ⟨rfl, hw⟩; obtain rfl := hw.symm) | (go_at_call 7; (with_reducible refine (i2 _).mono ?_); rintro e w2 ⟨rfl, hb⟩; have B2 : Hid (Below w.heap.size w w2) := bstep B1.out hb; clear hb) | (go_at_call 6; (with_reducible refine (k1 _).mono ?_); rintro e w' ⟨rfl, hw⟩; obtain rfl := hw.symm) | (go_at_call 8; (with_reducible refine (k2 _).mono ?_); rintro e w' ⟨rfl, hw⟩; obtain rfl := hw.symm) | (go_at_call 8; (with_reducible refine (i3 _).mono ?_); rintro e w' ⟨rfl, hw⟩; obtain rfl := hw.symm) | (go_at_call 8; (with_reducible refine (i4 _).mono ?_); rintro e w' ⟨rfl, hw⟩; obtain rfl := hw.symm))
          go_ret
          exact ⟨rfl, B2.out⟩
      · clear ht h1 h2 h3
        go_wp2_with (first | (go_at_call 6; (with_reducible refine (i1 _).mono ?_); rintro e w' ⟨rfl, hw⟩; obtain rfl := hw.symm) | (go_at_call 7; (with_reducible refine (i2 _).mono ?_); rintro e w2 ⟨rfl, hb⟩; have B2 : Hid (Below w.heap.size w w2) := bstep B1.out hb; clear hb) | (go_at_call 6; (with_reducible refine (k1 _).mono ?_); rintro e w' ⟨rfl, hw⟩; obtain rfl := hw.symm) | (go_at_call 8; (with_reducible refine (k2 _).mono ?_); rintro e w' ⟨rfl, hw⟩; obtain rfl := hw.symm))
        go_ret
        exact ⟨rfl, B2.out⟩
    · have i1 := iThr_bad h
      have i2 := sThr_bad h
      clear h
      go_wp2_with (first | (go_at_call 6; (with_reducible refine (i1 _).mono ?_); rintro e w' ⟨rfl, hw⟩; obtain rfl := hw.symm) | (go_at_call 7; (with_reducible refine (i2 _).mono ?_); rintro e w2 ⟨rfl, hb⟩; have B2 : Hid (Below w.heap.size w w2) := bstep B1.out hb; clear hb) | (go_at_call 6; (with_reducible refine (k1 _).mono ?_); rintro e w' ⟨rfl, hw⟩; obtain rfl := hw.symm) | (go_at_call 8; (with_reducible refine (k2 _).mono ?_); rintro e w' ⟨rfl, hw⟩; obtain rfl := hw.symm))
      go_ret
      exact ⟨rfl, B2.out⟩
  · rw [decide_eq_true (by omega)] at ib
    clear hr
    go_enter Try.func3, Try.ntmps3
    go_wp2_with (first
      | (go_at_call 4; (with_reducible refine ib.mono ?_); rintro e w' ⟨rfl, hw⟩; obtain rfl := hw.symm))
    go_ret
    exact ⟨rfl, Below.refl _ _⟩
end Go.Proofs.Ytmpbhmmhdllkhaa
