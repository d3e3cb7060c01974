/- Products in the field: both sides. -/
import Derived.Test.YtpjpkkgcnnmljaaX0
import Derived.Test.YtpjpkkgcnnmljaaGF
import Derived.WalkKit
import Derived.WalkSpells
import Derived.WalkLawsBesides
import Derived.Deep.QuietTactic
import Derived.BigQuiet
namespace Go.Proofs.Ytpjpkkgcnnmljaa
open Go.RowKit

theorem low_fin : ∀ b : Fin 256, b.val = (b.val % 2) ^^^ (2 * (b.val / 2)) := by decide +kernel

/-- A product by the lowest bit of the second number. -/
theorem gm_low {a b : Nat} (ha : a < 256) (hb : b < 256) : gm a b = (if b % 2 = 1 then a else 0) ^^^ gm (gdb a) (b / 2) := by
  have h1 : b = (b % 2) ^^^ (2 * (b / 2)) := by
    have := low_fin ⟨b, hb⟩
    exact this
  have h2 : gm a (2 * (b / 2)) = gm (gdb a) (b / 2) := by
    have e1 : 2 * (b / 2) = gdb (b / 2) := by unfold gdb; rw [if_neg (by omega)]
    rw [e1, show gdb (b / 2) = gm (b / 2) 2 from gdb_two ⟨b / 2, by omega⟩, show gdb a = gm a 2 from gdb_two ⟨a, ha⟩]
    rw [gm_comm (a := b / 2) (b := 2) (by omega) (by omega), gm_assoc ha (by omega) (by omega)]
  have h3 : gm a b = gm a (b % 2) ^^^ gm a (2 * (b / 2)) := by
    conv => lhs; rw [h1]
    exact gm_add_r ha (by omega) (by omega)
  rw [h3, h2]
  congr 1
  by_cases h : b % 2 = 1
  · rw [if_pos h, h, gm_one_r ha]
  · rw [if_neg h, show b % 2 = 0 by omega, gm_zero_r ha]

theorem and_u8 {a b : Nat} (ha : a < 256) (hb : b < 256) : bits .and .u8 (a : Int) (b : Int) = ((a &&& b : Nat) : Int) := by
  have hx : a &&& b < 256 := Nat.lt_of_le_of_lt Nat.and_le_left ha
  show IntKind.u8.wrap (((BitVec.ofInt 8 (a : Int)) &&& (BitVec.ofInt 8 (b : Int))).toNat : Int) = _
  rw [BitVec.toNat_and, BitVec.toNat_ofInt, BitVec.toNat_ofInt, IntKind.wrap_u8]
  rw [show ((a : Int) % ((2 : Nat) ^ 8 : Nat)).toNat = a by omega, show ((b : Int) % ((2 : Nat) ^ 8 : Nat)).toNat = b by omega]
  omega
theorem xor_u8 {a b : Nat} (ha : a < 256) (hb : b < 256) : bits .xor .u8 (a : Int) (b : Int) = ((a ^^^ b : Nat) : Int) := by
  have hx : a ^^^ b < 256 := xor_lt8 ha hb
  show IntKind.u8.wrap (((BitVec.ofInt 8 (a : Int)) ^^^ (BitVec.ofInt 8 (b : Int))).toNat : Int) = _
  rw [BitVec.toNat_xor, BitVec.toNat_ofInt, BitVec.toNat_ofInt, IntKind.wrap_u8]
  rw [show ((a : Int) % ((2 : Nat) ^ 8 : Nat)).toNat = a by omega, show ((b : Int) % ((2 : Nat) ^ 8 : Nat)).toNat = b by omega]
  omega

theorem dbl_fin : ∀ x : Fin 256, 128 ≤ x.val → ((2 * x.val - 256) ^^^ 29 : Nat) = gdb x.val := by decide +kernel

set_option maxRecDepth 20000 in
set_option maxHeartbeats 1000000 in
theorem dbl_any {x : Nat} (h : x < 256) (w : World) : Calls Try.prog 69 #[.int .u8 (x : Int)] w fun e w' => e = .returned (.int .u8 ((gdb x : Nat) : Int)) ∧ w' = w := by
  by_cases h1 : 128 ≤ x
  · have e1 : bits .xor .u8 (2 * (x : Int) - 256) 29 = ((gdb x : Nat) : Int) := by
      have e1 := xor_u8 (a := 2 * x - 256) (b := 29) (by omega) (by omega)
      rw [dbl_fin ⟨x, h⟩ h1, show ((2 * x - 256 : Nat) : Int) = 2 * (x : Int) - 256 by omega] at e1
      exact e1
    have e3 : IntKind.u8.wrap ((x : Int) * 2) = 2 * (x : Int) - 256 := by rw [IntKind.wrap_u8]; omega
    have e4 : IntKind.u8.wrap (2 * (x : Int)) = 2 * (x : Int) - 256 := by rw [IntKind.wrap_u8]; omega
    have h2 : (128 : Int) ≤ (x : Int) := by omega
    generalize gdb x = z at *
    clear h1
    go_enter Try.func69, Try.ntmps69
    go_wp2
    go_ret
    exact ⟨rfl, rfl⟩
  · have e0 : gdb x = 2 * x := by unfold gdb; rw [if_neg h1]
    rw [e0]
    obtain ⟨D, hD⟩ : ∃ D : Nat, D = 2 * x := ⟨_, rfl⟩
    rw [← hD]
    have e1 : 2 * (x : Int) = (D : Int) := by omega
    have e2 : (x : Int) * 2 = (D : Int) := by omega
    have hD8 : D < 256 := by omega
    have h2 : (x : Int) < 128 := by omega
    clear e0 h1 hD
    go_enter Try.func69, Try.ntmps69
    go_wp2
    go_ret
    exact ⟨rfl, rfl⟩

set_option maxRecDepth 20000 in
set_option maxHeartbeats 2000000 in
theorem times_any {a b : Nat} (ha : a < 256) (hb : b < 256) (w : World) : Calls Try.prog 66 #[.int .u8 (a : Int), .int .u8 (b : Int)] w fun e w' => e = .returned (.int .u8 ((gm a b : Nat) : Int)) ∧ w' = w := by
  obtain ⟨z, hz⟩ : ∃ z, z = gm a b := ⟨_, rfl⟩
  have hz8 : z < 256 := by rw [hz]; exact gm_lt ha b
  have HZ : Hid (0 ^^^ gm a b = z) := by rw [hz, Nat.zero_xor]; exact rfl
  rw [← hz]
  clear hz
  go_enter Try.func66, Try.ntmps66
  go_wp2
  go_loopw [0, 1, 5] (fun av bv pv wr => ∃ x y p : Nat, av = .int .u8 (x : Int) ∧ bv = .int .u8 (y : Int) ∧ pv = .int .u8 (p : Int) ∧ x < 256 ∧ y < 256 ∧ p < 256 ∧ wr = w ∧ Hid (p ^^^ gm x y = z)) (fun _ bv _ _ => (intOf bv).toNat)
  case atStart => exact ⟨a, b, 0, rfl, rfl, rfl, ha, hb, by omega, rfl, HZ.out⟩
  case round =>
    obtain ⟨x, y, p, rfl, rfl, rfl, hx, hy, hp, rfl, hrel⟩ := hrel
    by_cases h1 : 0 < y
    · have i1 := dbl_any hx
      have hg := gdb_lt hx
      have an : bits .and .u8 (y : Int) 1 = ((y % 2 : Nat) : Int) := by
        have an := and_u8 (a := y) (b := 1) (by omega) (by omega)
        rw [Nat.and_one_is_mod] at an
        exact an
      have hlow := gm_low hx hy
      obtain ⟨q, hq⟩ : ∃ q : Nat, q = y / 2 := ⟨_, rfl⟩
      have e1 : (y : Int) / 2 = (q : Int) := by omega
      have hqy : q < y := by omega
      by_cases h2 : y % 2 = 1
      · replace an : bits .and .u8 (y : Int) 1 = 1 := by rw [h2] at an; exact an
        rw [if_pos h2, ← hq] at hlow
        have xo := xor_u8 (a := p) (b := x) hp hx
        have HR : Hid ((p ^^^ x) ^^^ gm (gdb x) q = z) := by have := hrel.out; rw [hlow, ← Nat.xor_assoc] at this; exact this
        have hpx := xor_lt8 hp hx
        have hy0 : (0 : Int) < (y : Int) := by omega
        generalize (p ^^^ x) = p2 at *
        generalize gdb x = x2 at *
        clear hlow hrel hq h1 h2
        go_wp2_with (first | (go_at_call 69; (with_reducible refine (i1 _).mono ?_); rintro e w' ⟨rfl, hw⟩; obtain rfl := hw.symm))
        go_roundw
        case rel => exact ⟨x2, q, p2, rfl, rfl, rfl, hg, by omega, hpx, by trivial, HR.out⟩
        case measure => simp [intOf]; omega
      · replace an : bits .and .u8 (y : Int) 1 = 0 := by rw [show y % 2 = 0 by omega] at an; exact an
        rw [if_neg h2, Nat.zero_xor, ← hq] at hlow
        have HR : Hid (p ^^^ gm (gdb x) q = z) := by have := hrel.out; rw [hlow] at this; exact this
        have hy0 : (0 : Int) < (y : Int) := by omega
        generalize gdb x = x2 at *
        clear hlow hrel hq h1 h2
        go_wp2_with (first | (go_at_call 69; (with_reducible refine (i1 _).mono ?_); rintro e w' ⟨rfl, hw⟩; obtain rfl := hw.symm))
        go_roundw
        case rel => exact ⟨x2, q, p, rfl, rfl, rfl, hg, by omega, hp, by trivial, HR.out⟩
        case measure => simp [intOf]; omega
    · obtain rfl : y = 0 := by omega
      have hpz : p = z := by have := hrel.out; rw [gm_zero_r hx, Nat.xor_zero] at this; exact this
      subst hpz
      go_wp2
      go_ret
      exact ⟨rfl, rfl⟩

theorem sByte_any (x : Int) (w : World) : Calls Try.prog 44 #[.int .i64 x] w fun e w' => e = .returned (.bool (decide (0 ≤ x ∧ x ≤ 255))) ∧ w' = w := by
  have i1 := in_any x 0 255
  generalize decide (0 ≤ x ∧ x ≤ 255) = d at *
  go_enter Try.func44, Try.ntmps44
  go_wp2_with (first | (go_at_call 14; (with_reducible refine (i1 _).mono ?_); rintro e w' ⟨rfl, hw⟩; obtain rfl := hw.symm))
  go_ret
  exact ⟨rfl, rfl⟩

theorem bit_at (b i : Nat) : (b / 2 ^ i) % 2 = if b.testBit i then 1 else 0 := by
  rw [Nat.testBit_eq_decide_div_mod_eq]
  by_cases h : b / 2 ^ i % 2 = 1
  · simp [h]
  · simp [h]; omega

set_option maxRecDepth 20000 in
set_option maxHeartbeats 4000000 in
theorem sMul_yes {a b : Nat} (ha : a < 256) (hb : b < 256) (w : World) : Calls Try.prog 32 #[.int .i64 (a : Int), .int .i64 (b : Int)] w fun e w' => e = .returned (.int .i64 ((gm a b : Nat) : Int)) ∧ w' = w := by
  have i1 := sByte_any (a : Int)
  rw [decide_eq_true (by omega)] at i1
  have i2 := sByte_any (b : Int)
  rw [decide_eq_true (by omega)] at i2
  obtain ⟨z, hz⟩ : ∃ z, z = gm a b := ⟨_, rfl⟩
  have HZ : Hid (z = gmk a b 8) := hz
  rw [← hz]
  clear hz
  go_enter Try.func32, Try.ntmps32
  go_wp2_with (first | (go_at_call 44; (with_reducible refine (i1 _).mono ?_); rintro e w' ⟨rfl, hw⟩; obtain rfl := hw.symm) | (go_at_call 44; (with_reducible refine (i2 _).mono ?_); rintro e w' ⟨rfl, hw⟩; obtain rfl := hw.symm))
  clear i1 i2
  go_loopw [5, 6] (fun pv iv wr => ∃ k p : Nat, iv = .int .i64 (7 - (k : Int)) ∧ pv = .int .i64 (p : Int) ∧ k ≤ 8 ∧ p < 256 ∧ wr = w ∧ Hid (p = gmk a b k)) (fun _ iv _ => (intOf iv + 1).toNat)
  case atStart => exact ⟨0, 0, rfl, rfl, by omega, by omega, rfl, rfl⟩
  case round =>
    obtain ⟨k, p, hi, rfl, hk, hp, rfl, hrel⟩ := hrel
    obtain rfl | rfl | rfl | rfl | rfl | rfl | rfl | rfl | rfl : k = 0 ∨ k = 1 ∨ k = 2 ∨ k = 3 ∨ k = 4 ∨ k = 5 ∨ k = 6 ∨ k = 7 ∨ k = 8 := by omega
    · replace hi : _ = Value.int IntKind.i64 7 := hi
      subst hi
      have hb2 := bit_at b 7
      obtain ⟨y, hy⟩ : ∃ y : Nat, y = b / 2 ^ 7 := ⟨_, rfl⟩
      rw [← hy] at hb2
      have e1 : (b : Int) / 128 = (y : Int) := by rw [hy]; omega
      have hy8 : y < 256 := by rw [hy]; omega
      have HS : Hid (gmk a b 1 = gdb (gmk a b 0) ^^^ gsel (b.testBit 7) a) := rfl
      have e9 : (b : Int) / ((2 : Int) ^ 7) = (y : Int) := by rw [hy]; omega
      clear hy
      by_cases h1 : 128 ≤ p
      · have x1 : bits .xor .i64 (2 * (p : Int)) 285 = (((2 * p) ^^^ 285 : Nat) : Int) := by
          have x1 := xor_nat (a := 2 * p) (b := 285) (by omega) (by omega)
          rw [show ((2 * p : Nat) : Int) = 2 * (p : Int) by omega] at x1
          exact x1
        have hgd : gdb p = (2 * p) ^^^ 285 := by unfold gdb; rw [if_pos h1]
        have hl := gdb_lt hp
        rw [hgd] at hl
        generalize hD : (2 * p) ^^^ 285 = D at *
        have h3 : (256 : Int) ≤ 2 * (p : Int) := by omega
        clear hD h1
        by_cases h2 : b.testBit 7
        · rw [if_pos h2] at hb2
          have e3 : (y : Int) % 2 = 1 := by omega
          have e4 : (y : Int).tmod 2 = 1 := by rw [Int.tmod_eq_emod_of_nonneg (by omega)]; omega
          have x2 := xor_nat (a := D) (b := a) (by omega) (by omega)
          have HN : Hid (D ^^^ a = gmk a b 1) := by rw [HS.out, ← hrel.out, hgd, h2]; exact rfl
          have hN : D ^^^ a < 256 := xor_lt8 hl ha
          generalize (D ^^^ a) = N at *
          clear hrel hgd h2 HS
          go_wp2
          go_roundw
          case rel => exact ⟨1, N, by go_num, rfl, by omega, hN, by trivial, HN.out⟩
          case measure => simp [intOf]
        · rw [if_neg h2] at hb2
          have e3 : (y : Int) % 2 = 0 := by omega
          have e4 : (y : Int).tmod 2 = 0 := by rw [Int.tmod_eq_emod_of_nonneg (by omega)]; omega
          have HN : Hid (D = gmk a b 1) := by rw [HS.out, ← hrel.out, hgd, gsel, if_neg h2, Nat.xor_zero]; exact rfl
          clear hrel hgd h2 HS
          go_wp2
          go_roundw
          case rel => exact ⟨1, D, by go_num, rfl, by omega, hl, by trivial, HN.out⟩
          case measure => simp [intOf]
      · have hgd : gdb p = 2 * p := by unfold gdb; rw [if_neg h1]
        have hl := gdb_lt hp
        rw [hgd] at hl
        have h3 : 2 * (p : Int) < 256 := by omega
        obtain ⟨D, hD⟩ : ∃ D : Nat, D = 2 * p := ⟨_, rfl⟩
        have e2 : 2 * (p : Int) = (D : Int) := by omega
        rw [← hD] at hgd hl
        clear hD h1
        by_cases h2 : b.testBit 7
        · rw [if_pos h2] at hb2
          have e3 : (y : Int) % 2 = 1 := by omega
          have e4 : (y : Int).tmod 2 = 1 := by rw [Int.tmod_eq_emod_of_nonneg (by omega)]; omega
          have x2 := xor_nat (a := D) (b := a) (by omega) (by omega)
          have HN : Hid (D ^^^ a = gmk a b 1) := by rw [HS.out, ← hrel.out, hgd, h2]; exact rfl
          have hN : D ^^^ a < 256 := xor_lt8 hl ha
          generalize (D ^^^ a) = N at *
          clear hrel hgd h2 HS
          go_wp2
          go_roundw
          case rel => exact ⟨1, N, by go_num, rfl, by omega, hN, by trivial, HN.out⟩
          case measure => simp [intOf]
        · rw [if_neg h2] at hb2
          have e3 : (y : Int) % 2 = 0 := by omega
          have e4 : (y : Int).tmod 2 = 0 := by rw [Int.tmod_eq_emod_of_nonneg (by omega)]; omega
          have HN : Hid (D = gmk a b 1) := by rw [HS.out, ← hrel.out, hgd, gsel, if_neg h2, Nat.xor_zero]; exact rfl
          clear hrel hgd h2 HS
          go_wp2
          go_roundw
          case rel => exact ⟨1, D, by go_num, rfl, by omega, hl, by trivial, HN.out⟩
          case measure => simp [intOf]
    · replace hi : _ = Value.int IntKind.i64 6 := hi
      subst hi
      have hb2 := bit_at b 6
      obtain ⟨y, hy⟩ : ∃ y : Nat, y = b / 2 ^ 6 := ⟨_, rfl⟩
      rw [← hy] at hb2
      have e1 : (b : Int) / 64 = (y : Int) := by rw [hy]; omega
      have hy8 : y < 256 := by rw [hy]; omega
      have HS : Hid (gmk a b 2 = gdb (gmk a b 1) ^^^ gsel (b.testBit 6) a) := rfl
      have e9 : (b : Int) / ((2 : Int) ^ 6) = (y : Int) := by rw [hy]; omega
      clear hy
      by_cases h1 : 128 ≤ p
      · have x1 : bits .xor .i64 (2 * (p : Int)) 285 = (((2 * p) ^^^ 285 : Nat) : Int) := by
          have x1 := xor_nat (a := 2 * p) (b := 285) (by omega) (by omega)
          rw [show ((2 * p : Nat) : Int) = 2 * (p : Int) by omega] at x1
          exact x1
        have hgd : gdb p = (2 * p) ^^^ 285 := by unfold gdb; rw [if_pos h1]
        have hl := gdb_lt hp
        rw [hgd] at hl
        generalize hD : (2 * p) ^^^ 285 = D at *
        have h3 : (256 : Int) ≤ 2 * (p : Int) := by omega
        clear hD h1
        by_cases h2 : b.testBit 6
        · rw [if_pos h2] at hb2
          have e3 : (y : Int) % 2 = 1 := by omega
          have e4 : (y : Int).tmod 2 = 1 := by rw [Int.tmod_eq_emod_of_nonneg (by omega)]; omega
          have x2 := xor_nat (a := D) (b := a) (by omega) (by omega)
          have HN : Hid (D ^^^ a = gmk a b 2) := by rw [HS.out, ← hrel.out, hgd, h2]; exact rfl
          have hN : D ^^^ a < 256 := xor_lt8 hl ha
          generalize (D ^^^ a) = N at *
          clear hrel hgd h2 HS
          go_wp2
          go_roundw
          case rel => exact ⟨2, N, by go_num, rfl, by omega, hN, by trivial, HN.out⟩
          case measure => simp [intOf]
        · rw [if_neg h2] at hb2
          have e3 : (y : Int) % 2 = 0 := by omega
          have e4 : (y : Int).tmod 2 = 0 := by rw [Int.tmod_eq_emod_of_nonneg (by omega)]; omega
          have HN : Hid (D = gmk a b 2) := by rw [HS.out, ← hrel.out, hgd, gsel, if_neg h2, Nat.xor_zero]; exact rfl
          clear hrel hgd h2 HS
          go_wp2
          go_roundw
          case rel => exact ⟨2, D, by go_num, rfl, by omega, hl, by trivial, HN.out⟩
          case measure => simp [intOf]
      · have hgd : gdb p = 2 * p := by unfold gdb; rw [if_neg h1]
        have hl := gdb_lt hp
        rw [hgd] at hl
        have h3 : 2 * (p : Int) < 256 := by omega
        obtain ⟨D, hD⟩ : ∃ D : Nat, D = 2 * p := ⟨_, rfl⟩
        have e2 : 2 * (p : Int) = (D : Int) := by omega
        rw [← hD] at hgd hl
        clear hD h1
        by_cases h2 : b.testBit 6
        · rw [if_pos h2] at hb2
          have e3 : (y : Int) % 2 = 1 := by omega
          have e4 : (y : Int).tmod 2 = 1 := by rw [Int.tmod_eq_emod_of_nonneg (by omega)]; omega
          have x2 := xor_nat (a := D) (b := a) (by omega) (by omega)
          have HN : Hid (D ^^^ a = gmk a b 2) := by rw [HS.out, ← hrel.out, hgd, h2]; exact rfl
          have hN : D ^^^ a < 256 := xor_lt8 hl ha
          generalize (D ^^^ a) = N at *
          clear hrel hgd h2 HS
          go_wp2
          go_roundw
          case rel => exact ⟨2, N, by go_num, rfl, by omega, hN, by trivial, HN.out⟩
          case measure => simp [intOf]
        · rw [if_neg h2] at hb2
          have e3 : (y : Int) % 2 = 0 := by omega
          have e4 : (y : Int).tmod 2 = 0 := by rw [Int.tmod_eq_emod_of_nonneg (by omega)]; omega
          have HN : Hid (D = gmk a b 2) := by rw [HS.out, ← hrel.out, hgd, gsel, if_neg h2, Nat.xor_zero]; exact rfl
          clear hrel hgd h2 HS
          go_wp2
          go_roundw
          case rel => exact ⟨2, D, by go_num, rfl, by omega, hl, by trivial, HN.out⟩
          case measure => simp [intOf]
    · replace hi : _ = Value.int IntKind.i64 5 := hi
      subst hi
      have hb2 := bit_at b 5
      obtain ⟨y, hy⟩ : ∃ y : Nat, y = b / 2 ^ 5 := ⟨_, rfl⟩
      rw [← hy] at hb2
      have e1 : (b : Int) / 32 = (y : Int) := by rw [hy]; omega
      have hy8 : y < 256 := by rw [hy]; omega
      have HS : Hid (gmk a b 3 = gdb (gmk a b 2) ^^^ gsel (b.testBit 5) a) := rfl
      have e9 : (b : Int) / ((2 : Int) ^ 5) = (y : Int) := by rw [hy]; omega
      clear hy
      by_cases h1 : 128 ≤ p
      · have x1 : bits .xor .i64 (2 * (p : Int)) 285 = (((2 * p) ^^^ 285 : Nat) : Int) := by
          have x1 := xor_nat (a := 2 * p) (b := 285) (by omega) (by omega)
          rw [show ((2 * p : Nat) : Int) = 2 * (p : Int) by omega] at x1
          exact x1
        have hgd : gdb p = (2 * p) ^^^ 285 := by unfold gdb; rw [if_pos h1]
        have hl := gdb_lt hp
        rw [hgd] at hl
        generalize hD : (2 * p) ^^^ 285 = D at *
        have h3 : (256 : Int) ≤ 2 * (p : Int) := by omega
        clear hD h1
        by_cases h2 : b.testBit 5
        · rw [if_pos h2] at hb2
          have e3 : (y : Int) % 2 = 1 := by omega
          have e4 : (y : Int).tmod 2 = 1 := by rw [Int.tmod_eq_emod_of_nonneg (by omega)]; omega
          have x2 := xor_nat (a := D) (b := a) (by omega) (by omega)
          have HN : Hid (D ^^^ a = gmk a b 3) := by rw [HS.out, ← hrel.out, hgd, h2]; exact rfl
          have hN : D ^^^ a < 256 := xor_lt8 hl ha
          generalize (D ^^^ a) = N at *
          clear hrel hgd h2 HS
          go_wp2
          go_roundw
          case rel => exact ⟨3, N, by go_num, rfl, by omega, hN, by trivial, HN.out⟩
          case measure => simp [intOf]
        · rw [if_neg h2] at hb2
          have e3 : (y : Int) % 2 = 0 := by omega
          have e4 : (y : Int).tmod 2 = 0 := by rw [Int.tmod_eq_emod_of_nonneg (by omega)]; omega
          have HN : Hid (D = gmk a b 3) := by rw [HS.out, ← hrel.out, hgd, gsel, if_neg h2, Nat.xor_zero]; exact rfl
          clear hrel hgd h2 HS
          go_wp2
          go_roundw
          case rel => exact ⟨3, D, by go_num, rfl, by omega, hl, by trivial, HN.out⟩
          case measure => simp [intOf]
      · have hgd : gdb p = 2 * p := by unfold gdb; rw [if_neg h1]
        have hl := gdb_lt hp
        rw [hgd] at hl
        have h3 : 2 * (p : Int) < 256 := by omega
        obtain ⟨D, hD⟩ : ∃ D : Nat, D = 2 * p := ⟨_, rfl⟩
        have e2 : 2 * (p : Int) = (D : Int) := by omega
        rw [← hD] at hgd hl
        clear hD h1
        by_cases h2 : b.testBit 5
        · rw [if_pos h2] at hb2
          have e3 : (y : Int) % 2 = 1 := by omega
          have e4 : (y : Int).tmod 2 = 1 := by rw [Int.tmod_eq_emod_of_nonneg (by omega)]; omega
          have x2 := xor_nat (a := D) (b := a) (by omega) (by omega)
          have HN : Hid (D ^^^ a = gmk a b 3) := by rw [HS.out, ← hrel.out, hgd, h2]; exact rfl
          have hN : D ^^^ a < 256 := xor_lt8 hl ha
          generalize (D ^^^ a) = N at *
          clear hrel hgd h2 HS
          go_wp2
          go_roundw
          case rel => exact ⟨3, N, by go_num, rfl, by omega, hN, by trivial, HN.out⟩
          case measure => simp [intOf]
        · rw [if_neg h2] at hb2
          have e3 : (y : Int) % 2 = 0 := by omega
          have e4 : (y : Int).tmod 2 = 0 := by rw [Int.tmod_eq_emod_of_nonneg (by omega)]; omega
          have HN : Hid (D = gmk a b 3) := by rw [HS.out, ← hrel.out, hgd, gsel, if_neg h2, Nat.xor_zero]; exact rfl
          clear hrel hgd h2 HS
          go_wp2
          go_roundw
          case rel => exact ⟨3, D, by go_num, rfl, by omega, hl, by trivial, HN.out⟩
          case measure => simp [intOf]
    · replace hi : _ = Value.int IntKind.i64 4 := hi
      subst hi
      have hb2 := bit_at b 4
      obtain ⟨y, hy⟩ : ∃ y : Nat, y = b / 2 ^ 4 := ⟨_, rfl⟩
      rw [← hy] at hb2
      have e1 : (b : Int) / 16 = (y : Int) := by rw [hy]; omega
      have hy8 : y < 256 := by rw [hy]; omega
      have HS : Hid (gmk a b 4 = gdb (gmk a b 3) ^^^ gsel (b.testBit 4) a) := rfl
      have e9 : (b : Int) / ((2 : Int) ^ 4) = (y : Int) := by rw [hy]; omega
      clear hy
      by_cases h1 : 128 ≤ p
      · have x1 : bits .xor .i64 (2 * (p : Int)) 285 = (((2 * p) ^^^ 285 : Nat) : Int) := by
          have x1 := xor_nat (a := 2 * p) (b := 285) (by omega) (by omega)
          rw [show ((2 * p : Nat) : Int) = 2 * (p : Int) by omega] at x1
          exact x1
        have hgd : gdb p = (2 * p) ^^^ 285 := by unfold gdb; rw [if_pos h1]
        have hl := gdb_lt hp
        rw [hgd] at hl
        generalize hD : (2 * p) ^^^ 285 = D at *
        have h3 : (256 : Int) ≤ 2 * (p : Int) := by omega
        clear hD h1
        by_cases h2 : b.testBit 4
        · rw [if_pos h2] at hb2
          have e3 : (y : Int) % 2 = 1 := by omega
          have e4 : (y : Int).tmod 2 = 1 := by rw [Int.tmod_eq_emod_of_nonneg (by omega)]; omega
          have x2 := xor_nat (a := D) (b := a) (by omega) (by omega)
          have HN : Hid (D ^^^ a = gmk a b 4) := by rw [HS.out, ← hrel.out, hgd, h2]; exact rfl
          have hN : D ^^^ a < 256 := xor_lt8 hl ha
          generalize (D ^^^ a) = N at *
          clear hrel hgd h2 HS
          go_wp2
          go_roundw
          case rel => exact ⟨4, N, by go_num, rfl, by omega, hN, by trivial, HN.out⟩
          case measure => simp [intOf]
        · rw [if_neg h2] at hb2
          have e3 : (y : Int) % 2 = 0 := by omega
          have e4 : (y : Int).tmod 2 = 0 := by rw [Int.tmod_eq_emod_of_nonneg (by omega)]; omega
          have HN : Hid (D = gmk a b 4) := by rw [HS.out, ← hrel.out, hgd, gsel, if_neg h2, Nat.xor_zero]; exact rfl
          clear hrel hgd h2 HS
          go_wp2
          go_roundw
          case rel => exact ⟨4, D, by go_num, rfl, by omega, hl, by trivial, HN.out⟩
          case measure => simp [intOf]
      · have hgd : gdb p = 2 * p := by unfold gdb; rw [if_neg h1]
        have hl := gdb_lt hp
        rw [hgd] at hl
        have h3 : 2 * (p : Int) < 256 := by omega
        obtain ⟨D, hD⟩ : ∃ D : Nat, D = 2 * p := ⟨_, rfl⟩
        have e2 : 2 * (p : Int) = (D : Int) := by omega
        rw [← hD] at hgd hl
        clear hD h1
        by_cases h2 : b.testBit 4
        · rw [if_pos h2] at hb2
          have e3 : (y : Int) % 2 = 1 := by omega
          have e4 : (y : Int).tmod 2 = 1 := by rw [Int.tmod_eq_emod_of_nonneg (by omega)]; omega
          have x2 := xor_nat (a := D) (b := a) (by omega) (by omega)
          have HN : Hid (D ^^^ a = gmk a b 4) := by rw [HS.out, ← hrel.out, hgd, h2]; exact rfl
          have hN : D ^^^ a < 256 := xor_lt8 hl ha
          generalize (D ^^^ a) = N at *
          clear hrel hgd h2 HS
          go_wp2
          go_roundw
          case rel => exact ⟨4, N, by go_num, rfl, by omega, hN, by trivial, HN.out⟩
          case measure => simp [intOf]
        · rw [if_neg h2] at hb2
          have e3 : (y : Int) % 2 = 0 := by omega
          have e4 : (y : Int).tmod 2 = 0 := by rw [Int.tmod_eq_emod_of_nonneg (by omega)]; omega
          have HN : Hid (D = gmk a b 4) := by rw [HS.out, ← hrel.out, hgd, gsel, if_neg h2, Nat.xor_zero]; exact rfl
          clear hrel hgd h2 HS
          go_wp2
          go_roundw
          case rel => exact ⟨4, D, by go_num, rfl, by omega, hl, by trivial, HN.out⟩
          case measure => simp [intOf]
    · replace hi : _ = Value.int IntKind.i64 3 := hi
      subst hi
      have hb2 := bit_at b 3
      obtain ⟨y, hy⟩ : ∃ y : Nat, y = b / 2 ^ 3 := ⟨_, rfl⟩
      rw [← hy] at hb2
      have e1 : (b : Int) / 8 = (y : Int) := by rw [hy]; omega
      have hy8 : y < 256 := by rw [hy]; omega
      have HS : Hid (gmk a b 5 = gdb (gmk a b 4) ^^^ gsel (b.testBit 3) a) := rfl
      have e9 : (b : Int) / ((2 : Int) ^ 3) = (y : Int) := by rw [hy]; omega
      clear hy
      by_cases h1 : 128 ≤ p
      · have x1 : bits .xor .i64 (2 * (p : Int)) 285 = (((2 * p) ^^^ 285 : Nat) : Int) := by
          have x1 := xor_nat (a := 2 * p) (b := 285) (by omega) (by omega)
          rw [show ((2 * p : Nat) : Int) = 2 * (p : Int) by omega] at x1
          exact x1
        have hgd : gdb p = (2 * p) ^^^ 285 := by unfold gdb; rw [if_pos h1]
        have hl := gdb_lt hp
        rw [hgd] at hl
        generalize hD : (2 * p) ^^^ 285 = D at *
        have h3 : (256 : Int) ≤ 2 * (p : Int) := by omega
        clear hD h1
        by_cases h2 : b.testBit 3
        · rw [if_pos h2] at hb2
          have e3 : (y : Int) % 2 = 1 := by omega
          have e4 : (y : Int).tmod 2 = 1 := by rw [Int.tmod_eq_emod_of_nonneg (by omega)]; omega
          have x2 := xor_nat (a := D) (b := a) (by omega) (by omega)
          have HN : Hid (D ^^^ a = gmk a b 5) := by rw [HS.out, ← hrel.out, hgd, h2]; exact rfl
          have hN : D ^^^ a < 256 := xor_lt8 hl ha
          generalize (D ^^^ a) = N at *
          clear hrel hgd h2 HS
          go_wp2
          go_roundw
          case rel => exact ⟨5, N, by go_num, rfl, by omega, hN, by trivial, HN.out⟩
          case measure => simp [intOf]
        · rw [if_neg h2] at hb2
          have e3 : (y : Int) % 2 = 0 := by omega
          have e4 : (y : Int).tmod 2 = 0 := by rw [Int.tmod_eq_emod_of_nonneg (by omega)]; omega
          have HN : Hid (D = gmk a b 5) := by rw [HS.out, ← hrel.out, hgd, gsel, if_neg h2, Nat.xor_zero]; exact rfl
          clear hrel hgd h2 HS
          go_wp2
          go_roundw
          case rel => exact ⟨5, D, by go_num, rfl, by omega, hl, by trivial, HN.out⟩
          case measure => simp [intOf]
      · have hgd : gdb p = 2 * p := by unfold gdb; rw [if_neg h1]
        have hl := gdb_lt hp
        rw [hgd] at hl
        have h3 : 2 * (p : Int) < 256 := by omega
        obtain ⟨D, hD⟩ : ∃ D : Nat, D = 2 * p := ⟨_, rfl⟩
        have e2 : 2 * (p : Int) = (D : Int) := by omega
        rw [← hD] at hgd hl
        clear hD h1
        by_cases h2 : b.testBit 3
        · rw [if_pos h2] at hb2
          have e3 : (y : Int) % 2 = 1 := by omega
          have e4 : (y : Int).tmod 2 = 1 := by rw [Int.tmod_eq_emod_of_nonneg (by omega)]; omega
          have x2 := xor_nat (a := D) (b := a) (by omega) (by omega)
          have HN : Hid (D ^^^ a = gmk a b 5) := by rw [HS.out, ← hrel.out, hgd, h2]; exact rfl
          have hN : D ^^^ a < 256 := xor_lt8 hl ha
          generalize (D ^^^ a) = N at *
          clear hrel hgd h2 HS
          go_wp2
          go_roundw
          case rel => exact ⟨5, N, by go_num, rfl, by omega, hN, by trivial, HN.out⟩
          case measure => simp [intOf]
        · rw [if_neg h2] at hb2
          have e3 : (y : Int) % 2 = 0 := by omega
          have e4 : (y : Int).tmod 2 = 0 := by rw [Int.tmod_eq_emod_of_nonneg (by omega)]; omega
          have HN : Hid (D = gmk a b 5) := by rw [HS.out, ← hrel.out, hgd, gsel, if_neg h2, Nat.xor_zero]; exact rfl
          clear hrel hgd h2 HS
          go_wp2
          go_roundw
          case rel => exact ⟨5, D, by go_num, rfl, by omega, hl, by trivial, HN.out⟩
          case measure => simp [intOf]
    · replace hi : _ = Value.int IntKind.i64 2 := hi
      subst hi
      have hb2 := bit_at b 2
      obtain ⟨y, hy⟩ : ∃ y : Nat, y = b / 2 ^ 2 := ⟨_, rfl⟩
      rw [← hy] at hb2
      have e1 : (b : Int) / 4 = (y : Int) := by rw [hy]; omega
      have hy8 : y < 256 := by rw [hy]; omega
      have HS : Hid (gmk a b 6 = gdb (gmk a b 5) ^^^ gsel (b.testBit 2) a) := rfl
      have e9 : (b : Int) / ((2 : Int) ^ 2) = (y : Int) := by rw [hy]; omega
      clear hy
      by_cases h1 : 128 ≤ p
      · have x1 : bits .xor .i64 (2 * (p : Int)) 285 = (((2 * p) ^^^ 285 : Nat) : Int) := by
          have x1 := xor_nat (a := 2 * p) (b := 285) (by omega) (by omega)
          rw [show ((2 * p : Nat) : Int) = 2 * (p : Int) by omega] at x1
          exact x1
        have hgd : gdb p = (2 * p) ^^^ 285 := by unfold gdb; rw [if_pos h1]
        have hl := gdb_lt hp
        rw [hgd] at hl
        generalize hD : (2 * p) ^^^ 285 = D at *
        have h3 : (256 : Int) ≤ 2 * (p : Int) := by omega
        clear hD h1
        by_cases h2 : b.testBit 2
        · rw [if_pos h2] at hb2
          have e3 : (y : Int) % 2 = 1 := by omega
          have e4 : (y : Int).tmod 2 = 1 := by rw [Int.tmod_eq_emod_of_nonneg (by omega)]; omega
          have x2 := xor_nat (a := D) (b := a) (by omega) (by omega)
          have HN : Hid (D ^^^ a = gmk a b 6) := by rw [HS.out, ← hrel.out, hgd, h2]; exact rfl
          have hN : D ^^^ a < 256 := xor_lt8 hl ha
          generalize (D ^^^ a) = N at *
          clear hrel hgd h2 HS
          go_wp2
          go_roundw
          case rel => exact ⟨6, N, by go_num, rfl, by omega, hN, by trivial, HN.out⟩
          case measure => simp [intOf]
        · rw [if_neg h2] at hb2
          have e3 : (y : Int) % 2 = 0 := by omega
          have e4 : (y : Int).tmod 2 = 0 := by rw [Int.tmod_eq_emod_of_nonneg (by omega)]; omega
          have HN : Hid (D = gmk a b 6) := by rw [HS.out, ← hrel.out, hgd, gsel, if_neg h2, Nat.xor_zero]; exact rfl
          clear hrel hgd h2 HS
          go_wp2
          go_roundw
          case rel => exact ⟨6, D, by go_num, rfl, by omega, hl, by trivial, HN.out⟩
          case measure => simp [intOf]
      · have hgd : gdb p = 2 * p := by unfold gdb; rw [if_neg h1]
        have hl := gdb_lt hp
        rw [hgd] at hl
        have h3 : 2 * (p : Int) < 256 := by omega
        obtain ⟨D, hD⟩ : ∃ D : Nat, D = 2 * p := ⟨_, rfl⟩
        have e2 : 2 * (p : Int) = (D : Int) := by omega
        rw [← hD] at hgd hl
        clear hD h1
        by_cases h2 : b.testBit 2
        · rw [if_pos h2] at hb2
          have e3 : (y : Int) % 2 = 1 := by omega
          have e4 : (y : Int).tmod 2 = 1 := by rw [Int.tmod_eq_emod_of_nonneg (by omega)]; omega
          have x2 := xor_nat (a := D) (b := a) (by omega) (by omega)
          have HN : Hid (D ^^^ a = gmk a b 6) := by rw [HS.out, ← hrel.out, hgd, h2]; exact rfl
          have hN : D ^^^ a < 256 := xor_lt8 hl ha
          generalize (D ^^^ a) = N at *
          clear hrel hgd h2 HS
          go_wp2
          go_roundw
          case rel => exact ⟨6, N, by go_num, rfl, by omega, hN, by trivial, HN.out⟩
          case measure => simp [intOf]
        · rw [if_neg h2] at hb2
          have e3 : (y : Int) % 2 = 0 := by omega
          have e4 : (y : Int).tmod 2 = 0 := by rw [Int.tmod_eq_emod_of_nonneg (by omega)]; omega
          have HN : Hid (D = gmk a b 6) := by rw [HS.out, ← hrel.out, hgd, gsel, if_neg h2, Nat.xor_zero]; exact rfl
          clear hrel hgd h2 HS
          go_wp2
          go_roundw
          case rel => exact ⟨6, D, by go_num, rfl, by omega, hl, by trivial, HN.out⟩
          case measure => simp [intOf]
    · replace hi : _ = Value.int IntKind.i64 1 := hi
      subst hi
      have hb2 := bit_at b 1
      obtain ⟨y, hy⟩ : ∃ y : Nat, y = b / 2 ^ 1 := ⟨_, rfl⟩
      rw [← hy] at hb2
      have e1 : (b : Int) / 2 = (y : Int) := by rw [hy]; omega
      have hy8 : y < 256 := by rw [hy]; omega
      have HS : Hid (gmk a b 7 = gdb (gmk a b 6) ^^^ gsel (b.testBit 1) a) := rfl
      have e9 : (b : Int) / ((2 : Int) ^ 1) = (y : Int) := by rw [hy]; omega
      clear hy
      by_cases h1 : 128 ≤ p
      · have x1 : bits .xor .i64 (2 * (p : Int)) 285 = (((2 * p) ^^^ 285 : Nat) : Int) := by
          have x1 := xor_nat (a := 2 * p) (b := 285) (by omega) (by omega)
          rw [show ((2 * p : Nat) : Int) = 2 * (p : Int) by omega] at x1
          exact x1
        have hgd : gdb p = (2 * p) ^^^ 285 := by unfold gdb; rw [if_pos h1]
        have hl := gdb_lt hp
        rw [hgd] at hl
        generalize hD : (2 * p) ^^^ 285 = D at *
        have h3 : (256 : Int) ≤ 2 * (p : Int) := by omega
        clear hD h1
        by_cases h2 : b.testBit 1
        · rw [if_pos h2] at hb2
          have e3 : (y : Int) % 2 = 1 := by omega
          have e4 : (y : Int).tmod 2 = 1 := by rw [Int.tmod_eq_emod_of_nonneg (by omega)]; omega
          have x2 := xor_nat (a := D) (b := a) (by omega) (by omega)
          have HN : Hid (D ^^^ a = gmk a b 7) := by rw [HS.out, ← hrel.out, hgd, h2]; exact rfl
          have hN : D ^^^ a < 256 := xor_lt8 hl ha
          generalize (D ^^^ a) = N at *
          clear hrel hgd h2 HS
          go_wp2
          go_roundw
          case rel => exact ⟨7, N, by go_num, rfl, by omega, hN, by trivial, HN.out⟩
          case measure => simp [intOf]
        · rw [if_neg h2] at hb2
          have e3 : (y : Int) % 2 = 0 := by omega
          have e4 : (y : Int).tmod 2 = 0 := by rw [Int.tmod_eq_emod_of_nonneg (by omega)]; omega
          have HN : Hid (D = gmk a b 7) := by rw [HS.out, ← hrel.out, hgd, gsel, if_neg h2, Nat.xor_zero]; exact rfl
          clear hrel hgd h2 HS
          go_wp2
          go_roundw
          case rel => exact ⟨7, D, by go_num, rfl, by omega, hl, by trivial, HN.out⟩
          case measure => simp [intOf]
      · have hgd : gdb p = 2 * p := by unfold gdb; rw [if_neg h1]
        have hl := gdb_lt hp
        rw [hgd] at hl
        have h3 : 2 * (p : Int) < 256 := by omega
        obtain ⟨D, hD⟩ : ∃ D : Nat, D = 2 * p := ⟨_, rfl⟩
        have e2 : 2 * (p : Int) = (D : Int) := by omega
        rw [← hD] at hgd hl
        clear hD h1
        by_cases h2 : b.testBit 1
        · rw [if_pos h2] at hb2
          have e3 : (y : Int) % 2 = 1 := by omega
          have e4 : (y : Int).tmod 2 = 1 := by rw [Int.tmod_eq_emod_of_nonneg (by omega)]; omega
          have x2 := xor_nat (a := D) (b := a) (by omega) (by omega)
          have HN : Hid (D ^^^ a = gmk a b 7) := by rw [HS.out, ← hrel.out, hgd, h2]; exact rfl
          have hN : D ^^^ a < 256 := xor_lt8 hl ha
          generalize (D ^^^ a) = N at *
          clear hrel hgd h2 HS
          go_wp2
          go_roundw
          case rel => exact ⟨7, N, by go_num, rfl, by omega, hN, by trivial, HN.out⟩
          case measure => simp [intOf]
        · rw [if_neg h2] at hb2
          have e3 : (y : Int) % 2 = 0 := by omega
          have e4 : (y : Int).tmod 2 = 0 := by rw [Int.tmod_eq_emod_of_nonneg (by omega)]; omega
          have HN : Hid (D = gmk a b 7) := by rw [HS.out, ← hrel.out, hgd, gsel, if_neg h2, Nat.xor_zero]; exact rfl
          clear hrel hgd h2 HS
          go_wp2
          go_roundw
          case rel => exact ⟨7, D, by go_num, rfl, by omega, hl, by trivial, HN.out⟩
          case measure => simp [intOf]
    · replace hi : _ = Value.int IntKind.i64 0 := hi
      subst hi
      have hb2 := bit_at b 0
      obtain ⟨y, hy⟩ : ∃ y : Nat, y = b / 2 ^ 0 := ⟨_, rfl⟩
      rw [← hy] at hb2
      have e1 : (b : Int) / 1 = (y : Int) := by rw [hy]; omega
      have hy8 : y < 256 := by rw [hy]; omega
      have HS : Hid (gmk a b 8 = gdb (gmk a b 7) ^^^ gsel (b.testBit 0) a) := rfl
      have e9 : (b : Int) / ((2 : Int) ^ 0) = (y : Int) := by rw [hy]; omega
      clear hy
      by_cases h1 : 128 ≤ p
      · have x1 : bits .xor .i64 (2 * (p : Int)) 285 = (((2 * p) ^^^ 285 : Nat) : Int) := by
          have x1 := xor_nat (a := 2 * p) (b := 285) (by omega) (by omega)
          rw [show ((2 * p : Nat) : Int) = 2 * (p : Int) by omega] at x1
          exact x1
        have hgd : gdb p = (2 * p) ^^^ 285 := by unfold gdb; rw [if_pos h1]
        have hl := gdb_lt hp
        rw [hgd] at hl
        generalize hD : (2 * p) ^^^ 285 = D at *
        have h3 : (256 : Int) ≤ 2 * (p : Int) := by omega
        clear hD h1
        by_cases h2 : b.testBit 0
        · rw [if_pos h2] at hb2
          have e3 : (y : Int) % 2 = 1 := by omega
          have e4 : (y : Int).tmod 2 = 1 := by rw [Int.tmod_eq_emod_of_nonneg (by omega)]; omega
          have x2 := xor_nat (a := D) (b := a) (by omega) (by omega)
          have HN : Hid (D ^^^ a = gmk a b 8) := by rw [HS.out, ← hrel.out, hgd, h2]; exact rfl
          have hN : D ^^^ a < 256 := xor_lt8 hl ha
          generalize (D ^^^ a) = N at *
          clear hrel hgd h2 HS
          go_wp2
          go_roundw
          case rel => exact ⟨8, N, by go_num, rfl, by omega, hN, by trivial, HN.out⟩
          case measure => simp [intOf]
        · rw [if_neg h2] at hb2
          have e3 : (y : Int) % 2 = 0 := by omega
          have e4 : (y : Int).tmod 2 = 0 := by rw [Int.tmod_eq_emod_of_nonneg (by omega)]; omega
          have HN : Hid (D = gmk a b 8) := by rw [HS.out, ← hrel.out, hgd, gsel, if_neg h2, Nat.xor_zero]; exact rfl
          clear hrel hgd h2 HS
          go_wp2
          go_roundw
          case rel => exact ⟨8, D, by go_num, rfl, by omega, hl, by trivial, HN.out⟩
          case measure => simp [intOf]
      · have hgd : gdb p = 2 * p := by unfold gdb; rw [if_neg h1]
        have hl := gdb_lt hp
        rw [hgd] at hl
        have h3 : 2 * (p : Int) < 256 := by omega
        obtain ⟨D, hD⟩ : ∃ D : Nat, D = 2 * p := ⟨_, rfl⟩
        have e2 : 2 * (p : Int) = (D : Int) := by omega
        rw [← hD] at hgd hl
        clear hD h1
        by_cases h2 : b.testBit 0
        · rw [if_pos h2] at hb2
          have e3 : (y : Int) % 2 = 1 := by omega
          have e4 : (y : Int).tmod 2 = 1 := by rw [Int.tmod_eq_emod_of_nonneg (by omega)]; omega
          have x2 := xor_nat (a := D) (b := a) (by omega) (by omega)
          have HN : Hid (D ^^^ a = gmk a b 8) := by rw [HS.out, ← hrel.out, hgd, h2]; exact rfl
          have hN : D ^^^ a < 256 := xor_lt8 hl ha
          generalize (D ^^^ a) = N at *
          clear hrel hgd h2 HS
          go_wp2
          go_roundw
          case rel => exact ⟨8, N, by go_num, rfl, by omega, hN, by trivial, HN.out⟩
          case measure => simp [intOf]
        · rw [if_neg h2] at hb2
          have e3 : (y : Int) % 2 = 0 := by omega
          have e4 : (y : Int).tmod 2 = 0 := by rw [Int.tmod_eq_emod_of_nonneg (by omega)]; omega
          have HN : Hid (D = gmk a b 8) := by rw [HS.out, ← hrel.out, hgd, gsel, if_neg h2, Nat.xor_zero]; exact rfl
          clear hrel hgd h2 HS
          go_wp2
          go_roundw
          case rel => exact ⟨8, D, by go_num, rfl, by omega, hl, by trivial, HN.out⟩
          case measure => simp [intOf]
    · replace hi : _ = Value.int IntKind.i64 (-1) := hi
      subst hi
      obtain rfl : z = p := HZ.out.trans hrel.out.symm
      go_wp2
      go_ret
      exact ⟨rfl, rfl⟩
end Go.Proofs.Ytpjpkkgcnnmljaa
