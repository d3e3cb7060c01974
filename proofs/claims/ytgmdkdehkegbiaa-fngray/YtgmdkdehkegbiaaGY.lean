/- FnGray: the draw, neighbours, the law. -/
import Derived.Test.YtgmdkdehkegbiaaGR
import Derived.Test.YtgmdkdehkegbiaaD1
namespace Go.Proofs.Ytgmdkdehkegbiaa
open Go.RowKit

theorem xor_mod2 (a b : Nat) : (a ^^^ b) % 2 = (a + b) % 2 := by
  have h := @Nat.xor_mod_two_eq_one a b
  by_cases ha : a % 2 = 1 <;> by_cases hb : b % 2 = 1
  · have h1 : ¬ (a ^^^ b) % 2 = 1 := fun e => (h.1 e) ⟨fun _ => hb, fun _ => ha⟩
    omega
  · have h1 : (a ^^^ b) % 2 = 1 := h.2 (fun e => hb (e.1 ha))
    omega
  · have h1 : (a ^^^ b) % 2 = 1 := h.2 (fun e => ha (e.2 hb))
    omega
  · have h1 : ¬ (a ^^^ b) % 2 = 1 := fun e => (h.1 e) ⟨fun e => absurd e ha, fun e => absurd e hb⟩
    omega

theorem gry_half (n : Nat) : gry n / 2 = gry (n / 2) := xor_div2 _ _

theorem gry_low (n : Nat) : gry n % 2 = (n + n / 2) % 2 := xor_mod2 _ _

/-- Neighbours differ in one bit. -/
theorem gry_next (n : Nat) : ∃ j, gry n ^^^ gry (n + 1) = 2 ^ j := by
  induction n using Nat.strongRecOn with
  | _ n ih =>
    have h1 : (gry n ^^^ gry (n + 1)) / 2 = gry (n / 2) ^^^ gry ((n + 1) / 2) := by rw [xor_div2, gry_half, gry_half]
    have h2 : (gry n ^^^ gry (n + 1)) % 2 = (n + n / 2 + (n + 1 + (n + 1) / 2)) % 2 := by
      rw [xor_mod2, Nat.add_mod, gry_low, gry_low, ← Nat.add_mod]
    generalize gry n ^^^ gry (n + 1) = d at *
    rcases Nat.mod_two_eq_zero_or_one n with h0 | h0
    · rw [show (n + 1) / 2 = n / 2 by omega, Nat.xor_self] at h1
      exact ⟨0, by rw [Nat.pow_zero]; omega⟩
    · obtain ⟨j, hj⟩ := ih (n / 2) (by omega)
      rw [show (n + 1) / 2 = n / 2 + 1 by omega, hj] at h1
      exact ⟨j + 1, by rw [Nat.pow_succ]; omega⟩

theorem low_zero (j : Nat) : (2 : Nat) ^ j &&& (2 ^ j - 1) = 0 := by
  rw [Nat.and_two_pow_sub_one_eq_mod, Nat.mod_self]

set_option maxHeartbeats 1000000 in
theorem pick_p {w : World} {c : Nat} {a : Option Addr} {len cap : Nat} (h : Cu w c a len cap) {g n cp : Nat} {xs : Nat → Int} (hg : g ≠ c) (hlt : g < w.heap.size) (h0 : 0 < n) (h1 : n ≤ 256) (hx : ∀ k, k < n → w.cell? ⟨g, k, none⟩ = some (.int .i64 (xs k))) (P : Int → Prop) (hP : ∀ k, k < n → P (xs k)) :
    Calls Try.prog 17 #[.pointer (some ⟨c, 0, none⟩), .slice (some ⟨g, 0, none⟩) n cp] w fun e w' => ∃ x : Int, P x ∧ e = .returned (.int .i64 x) ∧ Cu w' c a len cap ∧ Keep c w w' := by
  have HC : Hid (Cu w c a len cap) := h
  have HX : Hid _ := hx
  have HP : Hid (∀ k, k < n → P (xs k)) := hP
  clear h hx hP
  go_enter Try.func17, Try.ntmps17
  go_wp2_with (go_at_call 14; refine (below_x HC.out n).mono ?_; rintro e w' ⟨x, hx0, hx1, hx2, rfl, hc, hk⟩; have hx3 := hx2 (by omega); obtain ⟨k, rfl⟩ := Int.eq_ofNat_of_zero_le hx0; have HC2 : Hid (Cu w' c a len cap) := hc; have HK : Hid (Keep c w w') := hk; have cc : w'.cell? ⟨g, k, none⟩ = some (.int .i64 (xs k)) := (hk.cell (p := ⟨g, k, none⟩) hg hlt).trans (HX.out k (by omega)); clear hc hk hx2)
  go_ret
  exact ⟨_, HP.out k (by omega), rfl, HC2.out, HK.out⟩

theorem pick_lp (L : List Int) (h0 : 0 < L.length) (h1 : L.length ≤ 256) (P : Int → Prop) (hP : ∀ k, k < L.length → P (L.getD k 0)) {W : World} {c : Nat} {a : Option Addr} {len cap : Nat} (h : Cu W c a len cap) :
    Calls Try.prog 17 #[.pointer (some ⟨c, 0, none⟩), .slice (some ⟨W.heap.size, 0, none⟩) L.length L.length] (W.alloc (.cells (L.map (fun x => Value.int .i64 x)).toArray 3)) fun e w' => ∃ x : Int, P x ∧ e = .returned (.int .i64 x) ∧ Cu w' c a len cap ∧ Keep c W w' := by
  refine (pick_p (h.call (below_one _ _)) (Nat.ne_of_gt h.lt) (by simp) h0 h1 (lit_cells W L 3) P hP).mono ?_
  rintro e w' ⟨x, hx, rfl, hc, hk⟩
  exact ⟨x, hx, rfl, hc, ((Keep.refl _ _).call (below_one _ _)).trans hk⟩

theorem pk6 {W : World} {c : Nat} {a : Option Addr} {len cap : Nat} (h : Cu W c a len cap) :
    Calls Try.prog 17 #[.pointer (some ⟨c, 0, none⟩), .slice (some ⟨W.heap.size, 0, none⟩) 6 6] (W.alloc (.cells #[.int .i64 4000000000000000000, .int .i64 4000000000000000001, .int .i64 (-4000000000000000000), .int .i64 (-4000000000000000001), .int .i64 9223372036854775807, .int .i64 (-9223372036854775808)] 3)) fun e w' => ∃ x : Int, (x ≤ 25600000000000000 ∨ 4000000000000000000 ≤ x) ∧ e = .returned (.int .i64 x) ∧ Cu w' c a len cap ∧ Keep c W w' :=
  pick_lp [4000000000000000000, 4000000000000000001, -4000000000000000000, -4000000000000000001, 9223372036854775807, -9223372036854775808] (by simp) (by simp) (fun x => x ≤ 25600000000000000 ∨ 4000000000000000000 ≤ x) (by decide) h

set_option maxHeartbeats 2000000 in
theorem dbig_x {w : World} {c : Nat} {a : Option Addr} {len cap : Nat} (h : Cu w c a len cap) :
    Calls Try.prog 15 #[.pointer (some ⟨c, 0, none⟩)] w fun e w' => ∃ x : Int, (x ≤ 25600000000000000 ∨ 4000000000000000000 ≤ x) ∧ e = .returned (.int .i64 x) ∧ Cu w' c a len cap ∧ Keep c w w' := by
  have HC : Hid (Cu w c a len cap) := h
  clear h
  go_enter Try.func15, Try.ntmps15
  go_wp2_with (go_at_call 14; refine (below_x HC.out 8).mono ?_; rintro e w1 ⟨i0, hi0, _, hi1, rfl, hc, hk⟩; have hi2 := hi1 (by omega); have HC1 : Hid (Cu w1 c a len cap) := hc; have K1 : Hid (Keep c w w1) := hk; clear hc hk hi1)
  obtain ⟨j, rfl⟩ := Int.eq_ofNat_of_zero_le hi0
  have HJ : Hid ((0 + 2) * 200 ^ j ≤ 25600000000000000) := by
    have h9 : (200 : Nat) ^ j ≤ 200 ^ 7 := Nat.pow_le_pow_right (by omega) (by omega)
    have h10 : (200 : Nat) ^ 7 = 12800000000000000 := rfl
    show (0 + 2) * 200 ^ j ≤ 25600000000000000
    omega
  go_loopw [3, 4] (fun x i wr => ∃ (q : Nat) (X : Nat), i = .int .i64 q ∧ x = .int .i64 (X : Int) ∧ q ≤ 8 ∧ Hid ((X + 2) * 200 ^ q ≤ 25600000000000000 ∧ Cu wr c a len cap ∧ Keep c w wr)) (fun _ i _ => (intOf i).toNat)
  case atStart => exact ⟨j, 0, rfl, rfl, by omega, HJ.out, HC1.out, K1.out⟩
  case round =>
    obtain ⟨q, X, rfl, rfl, hq, hcur⟩ := hrel
    by_cases h1 : 0 < q
    · have hb := hcur.out.1
      rw [show q = (q - 1) + 1 by omega, Nat.pow_succ] at hb
      have hp : 0 < (200 : Nat) ^ (q - 1) := Nat.pow_pos (by omega)
      have hX : X ≤ 128000000000000 := by
        have h9 : (X + 2) * 200 ≤ (X + 2) * (200 ^ (q - 1) * 200) := Nat.mul_le_mul_left _ (Nat.le_mul_of_pos_left _ hp)
        omega
      have HNX : Hid (∀ y : Nat, y < 256 → (X * 200 + y + 2) * 200 ^ (q - 1) ≤ 25600000000000000) := fun y hy => by
        have h9 : (X * 200 + y + 2) * 200 ^ (q - 1) ≤ ((X + 2) * 200) * 200 ^ (q - 1) := Nat.mul_le_mul_right _ (by omega)
        rw [Nat.mul_assoc, Nat.mul_comm 200] at h9
        exact Nat.le_trans h9 hb
      have HCU : Hid (Cu wr c a len cap ∧ Keep c w wr) := hcur.out.2
      clear hb hp hcur
      go_wp2_with (go_at_call 16; refine (byte_x HCU.out.1).mono ?_; rintro e w2 ⟨x2, hx0, hx1, rfl, hc, hk⟩; obtain ⟨y, rfl⟩ := Int.eq_ofNat_of_zero_le hx0; have HC2 : Hid (Cu w2 c a len cap) := hc; have K2 : Hid (Keep c w w2) := HCU.out.2.trans hk; clear hc hk)
      go_roundw
      case rel => exact ⟨q - 1, X * 200 + y, by congr 1; omega, by congr 1, by omega, HNX.out y (by omega), HC2.out, K2.out⟩
      case measure => simp [intOf]; omega
    · obtain rfl : q = 0 := by omega
      have hX : X ≤ 25600000000000000 := by have h9 := hcur.out.1; rw [Nat.pow_zero] at h9; omega
      have HC3 : Hid (Cu wr c a len cap) := hcur.out.2.1
      have K3 : Hid (Keep c w wr) := hcur.out.2.2
      clear hcur
      go_wp2_with (first
        | (go_at_call 13; (fail_if_success have := M4); refine (once_x HC3.out 2).mono ?_; rintro e w4 ⟨x4, rfl, hc, hk⟩; have M4 : Hid True := trivial; have HC4 : Hid (Cu w4 c a len cap) := hc; have K4 : Hid (Keep c w w4) := K3.out.trans hk; clear hc hk)
        | (go_at_call 13; (fail_if_success have := M5); refine (once_x HC4.out 15).mono ?_; rintro e w5 ⟨x5, rfl, hc, hk⟩; have M5 : Hid True := trivial; have HC5 : Hid (Cu w5 c a len cap) := hc; have K5 : Hid (Keep c w w5) := K4.out.trans hk; clear hc hk)
        | (go_at_call 17; refine (pk6 HC5.out).mono ?_; rintro e w6 ⟨x6, hx6, rfl, hc, hk⟩; have HX6 : Hid (x6 ≤ 25600000000000000 ∨ 4000000000000000000 ≤ x6) := hx6; have HC6 : Hid (Cu w6 c a len cap) := hc; have K6 : Hid (Keep c w w6) := K5.out.trans hk; clear hc hk hx6))
      all_goals
        go_ret
        first | exact ⟨_, HX6.out, rfl, HC6.out, K6.out⟩ | exact ⟨_, .inl (by omega), rfl, HC5.out, K5.out⟩

set_option maxHeartbeats 2000000 in
theorem dn_x {w : World} {a : Option Addr} {len cap : Nat} (hr : Row w a len) (hl : len ≤ 1048576) :
    Calls Try.prog 9 #[.slice a len cap] w fun e w' => ∃ x : Int, (x ≤ 25600000000000000 ∨ 4000000000000000000 ≤ x) ∧ e = .returned (.int .i64 x) ∧ Below w.heap.size w w' := by
  have HR : Hid (Row w a len) := hr
  clear hr
  obtain ⟨c, hcd⟩ : ∃ c, w.heap.size = c := ⟨_, rfl⟩
  have HN : Hid (Calls Try.prog 12 #[.slice a len cap] w fun e w' => e = .returned (.pointer (some ⟨c, 0, none⟩)) ∧ Cu w' c a len cap ∧ Below w.heap.size w w') := by have := new_x (cap := cap) HR.out (by omega); rw [← hcd]; exact this
  go_enter Try.func9, Try.ntmps9
  go_wp2_with (first
    | (go_at_call 12; refine HN.out.mono ?_; rintro e w1 ⟨rfl, hc, hb⟩; have HC : Hid (Cu w1 c a len cap) := hc; have B1 : Hid (Below w.heap.size w w1) := hb; have K : Hid (Keep c w1 w1) := Keep.refl _ _; clear hc hb)
    | (go_at_call 13; refine (once_x HC.out 2).mono ?_; rintro e w2 ⟨x2, rfl, hc, hk⟩; have HC : Hid (Cu w2 c a len cap) := hc; have K : Hid (Keep c w1 w2) := K.out.trans hk; clear hc hk)
    | (go_at_call 14; refine (below_x HC.out 300).mono ?_; rintro e w3 ⟨x3, h30, h31, _, rfl, hc, hk⟩; have HC : Hid (Cu w3 c a len cap) := hc; have K : Hid (Keep c w1 w3) := K.out.trans hk; clear hc hk)
    | (go_at_call 15; refine (dbig_x HC.out).mono ?_; rintro e w4 ⟨x4, hx4, rfl, hc, hk⟩; have HX : Hid (x4 ≤ 25600000000000000 ∨ 4000000000000000000 ≤ x4) := hx4; have HC : Hid (Cu w4 c a len cap) := hc; have K : Hid (Keep c w1 w4) := K.out.trans hk; clear hc hk hx4))
  all_goals
    go_ret
    first | exact ⟨_, HX.out, rfl, Below.keep B1.out K.out (Nat.le_of_eq hcd)⟩ | exact ⟨_, .inl (by omega), rfl, Below.keep B1.out K.out (Nat.le_of_eq hcd)⟩

theorem dg_x {w : World} {a : Option Addr} {len cap : Nat} (hr : Row w a len) (hl : len ≤ 1048576) :
    Calls Try.prog 5 #[.slice a len cap] w fun e w' => ∃ x : Int, (x ≤ 25600000000000000 ∨ 4000000000000000000 ≤ x) ∧ e = .returned (.int .i64 x) ∧ Below w.heap.size w w' := by
  have i1 := dn_x (cap := cap) hr hl
  clear hr
  go_enter Try.func5, Try.ntmps5
  go_wp2_with (first | (go_at_call 9; (with_reducible refine i1.mono ?_); rintro e w1 ⟨x, hx, rfl, hb⟩; have HX : Hid (x ≤ 25600000000000000 ∨ 4000000000000000000 ≤ x) := hx; have HB : Hid (Below w.heap.size w w1) := hb; clear hb hx))
  go_ret
  exact ⟨_, HX.out, rfl, HB.out⟩

theorem gry_3 : gry 3 = 2 := by decide

set_option maxHeartbeats 4000000 in
theorem walk_gray {w : World} {a : Option Addr} {len cap : Nat} (hr : Row w a len) (hl : len ≤ 9223372036854775807) :
    Calls Try.prog 3 #[.slice a len cap] w fun e w' => e = .returned (.bool true) ∧ Below w.heap.size w w' := by
  have ib := big_x (w := w) a len cap hl
  by_cases h0 : len ≤ 1048576
  · rw [decide_eq_false (by omega)] at ib
    have id := dg_x (cap := cap) hr h0
    have i3 := iGry_yes (n := 3) (by omega)
    rw [gry_3] at i3
    have i3' : ∀ W, Calls Try.prog 6 #[.int .i64 3] W fun e w' => e = .returned (.int .i64 2) ∧ w' = W := i3
    clear hr i3
    go_enter Try.func3, Try.ntmps3
    go_upto_region 4 with (first | (go_at_call 4; (with_reducible refine (ib).mono ?_); rintro e w' ⟨rfl, hw⟩; obtain rfl := hw.symm) | (go_at_call 5; (with_reducible refine id.mono ?_); rintro e w1 ⟨x, hx, rfl, hb⟩; have HX : Hid (x ≤ 25600000000000000 ∨ 4000000000000000000 ≤ x) := hx; have HB : Hid (Below w.heap.size w w1) := hb; clear hb hx))
    by_cases hg : Gok x
    · obtain ⟨n, rfl⟩ : ∃ n : Nat, x = (n : Int) := ⟨x.toNat, by omega⟩
      have i1 := iGry_yes (n := n) (by omega)
      have i2 := sGry_yes (n := n) (by omega)
      have hgb := gry_room (n := n) (by omega)
      by_cases h1 : n < 4000000000000000000
      · have i4 := iGry_yes (n := n + 1) (by omega)
        have hgb2 := gry_room (n := n + 1) (by omega)
        obtain ⟨j, hj⟩ := gry_next n
        obtain ⟨d, hd⟩ : ∃ d : Nat, d = gry n ^^^ gry (n + 1) := ⟨_, rfl⟩
        have e1 : bits .xor .i64 ((gry n : Nat) : Int) ((gry (n + 1) : Nat) : Int) = (d : Int) := by rw [xor_nat (by omega) (by omega), hd]
        have hdb : d < 4611686018427387904 := by rw [hd]; exact Nat.xor_lt_two_pow (n := 62) hgb hgb2
        have hd0 : 0 < d := by rw [hd, hj]; exact Nat.two_pow_pos j
        obtain ⟨d1, hd1⟩ : ∃ d1 : Nat, d1 = d - 1 := ⟨_, rfl⟩
        have e2 : (d : Int) - 1 = (d1 : Int) := by omega
        have e3 : bits .and .i64 (d : Int) (d1 : Int) = 0 := by
          rw [and_nat (by omega) (by omega), hd1, hd, hj, low_zero]; rfl
        have hug := ung_gry n
        have hgm : gry n ≤ 4611686018427387904 := by omega
        obtain ⟨q, hq⟩ : ∃ q : Nat, q = n + 1 := ⟨_, rfl⟩
        have e4 : (n : Int) + 1 = (q : Int) := by omega
        rw [← hq] at i4 e1
        by_cases h2 : gry n ≤ 4000000000000000000
        · have i5 := iUng_yes (n := gry n) h2
          rw [hug] at i5
          generalize gry n = g1 at *
          generalize gry q = g2 at *
          clear hd hj hd1 hq hug
          go_wp2_with (first | (go_at_call 6; (with_reducible refine (i1 _).mono ?_); rintro e w' ⟨rfl, hw⟩; obtain rfl := hw.symm) | (go_at_call 7; (with_reducible refine (i2 _).mono ?_); rintro e w' ⟨rfl, hw⟩; obtain rfl := hw.symm) | (go_at_call 6; (with_reducible refine (i4 _).mono ?_); rintro e w' ⟨rfl, hw⟩; obtain rfl := hw.symm) | (go_at_call 8; (with_reducible refine (i5 _).mono ?_); rintro e w' ⟨rfl, hw⟩; obtain rfl := hw.symm))
          go_ret
          exact ⟨rfl, HB.out⟩
        · exact absurd (gry_lt (n := n) (k := 56) (by have h9 := HX.out; have h10 : (2 : Nat) ^ 56 = 72057594037927936 := rfl; omega)) (by have h10 : (2 : Nat) ^ 56 = 72057594037927936 := rfl; omega)
      · go_wp2_with (first | (go_at_call 6; (with_reducible refine (i1 _).mono ?_); rintro e w' ⟨rfl, hw⟩; obtain rfl := hw.symm) | (go_at_call 7; (with_reducible refine (i2 _).mono ?_); rintro e w' ⟨rfl, hw⟩; obtain rfl := hw.symm) | (go_at_call 6; (with_reducible refine (i3' _).mono ?_); rintro e w' ⟨rfl, hw⟩; obtain rfl := hw.symm))
        go_ret
        exact ⟨rfl, HB.out⟩
    · have i1 := iGry_no hg
      have i2 := sGry_no hg
      by_cases h1 : x < 0
      · go_wp2_with (first | (go_at_call 6; (with_reducible refine (i1 _).mono ?_); rintro e w' ⟨rfl, hw⟩; obtain rfl := hw.symm) | (go_at_call 7; (with_reducible refine (i2 _).mono ?_); rintro e w' ⟨rfl, hw⟩; obtain rfl := hw.symm) | (go_at_call 6; (with_reducible refine (i3' _).mono ?_); rintro e w' ⟨rfl, hw⟩; obtain rfl := hw.symm))
        go_ret
        exact ⟨rfl, HB.out⟩
      · go_wp2_with (first | (go_at_call 6; (with_reducible refine (i1 _).mono ?_); rintro e w' ⟨rfl, hw⟩; obtain rfl := hw.symm) | (go_at_call 7; (with_reducible refine (i2 _).mono ?_); rintro e w' ⟨rfl, hw⟩; obtain rfl := hw.symm) | (go_at_call 6; (with_reducible refine (i3' _).mono ?_); rintro e w' ⟨rfl, hw⟩; obtain rfl := hw.symm))
        go_ret
        exact ⟨rfl, HB.out⟩
  · rw [decide_eq_true (by omega)] at ib
    clear hr
    go_enter Try.func3, Try.ntmps3
    go_wp2_with (first | (go_at_call 4; (with_reducible refine (ib).mono ?_); rintro e w' ⟨rfl, hw⟩; obtain rfl := hw.symm))
    go_ret
    exact ⟨rfl, Below.refl _ _⟩
end Go.Proofs.Ytgmdkdehkegbiaa
