/- FnHam: the walk. -/
import Derived.Test.YtpiemjabmipldaaDoorHB
namespace Go.Proofs.YtpiemjabmipldaaDoor
open Go.RowKit

/-- What is known of the bytes that came in: each element's cell. -/
def Row (w : World) (a : Option Addr) (n : Nat) : Prop := ∀ i, i < n → ∃ b off z, a = some ⟨b, off, none⟩ ∧ b < w.heap.size ∧ w.cell? ⟨b, off + i, none⟩ = some (.int .u8 z) ∧ 0 ≤ z ∧ z < 256

set_option maxHeartbeats 1000000 in
theorem big_x {w : World} (a : Option Addr) (n cap : Nat) (_ : n ≤ 9223372036854775807) : Calls Tryd.prog 4 #[.slice a n cap] w fun e w' => e = .returned (.bool (decide (1048576 < (n : Int)))) ∧ w' = w := by
  go_enter Tryd.func4, Tryd.ntmps4
  go_wp2
  go_ret
  exact ⟨rfl, rfl⟩

set_option maxRecDepth 100000 in
theorem at_0 {w : World} {a : Option Addr} {n : Nat} (cap : Nat) (hr : Row w a n) (hn : n ≤ 1048576) : ∃ m : Nat, m < 256 ∧ Calls Tryd.prog 5 #[.slice a n cap, .int .i64 0] w fun e w' => e = .returned (.int .i64 (m : Int)) ∧ w' = w := by
  by_cases h : 0 < n
  · obtain ⟨b, off, z, rfl, hb, hc, hz0, hz1⟩ := hr 0 h
    obtain ⟨m, rfl⟩ : ∃ m : Nat, z = (m : Int) := ⟨z.toNat, by omega⟩
    refine ⟨m, by omega, ?_⟩
    rw [Nat.add_zero] at hc
    clear hr hb
    go_enter Tryd.func5, Tryd.ntmps5
    go_wp2
    go_ret
    exact ⟨rfl, rfl⟩
  · clear hr
    refine ⟨(0 + n) % 256, by omega, ?_⟩
    obtain ⟨m, hm⟩ : ∃ m, m = (0 + n) % 256 := ⟨_, rfl⟩
    rw [← hm]
    have e1 : (0 + (n : Int)) % 256 = (m : Int) := by omega
    have e2 : (0 + (n : Int)).tmod 256 = (m : Int) := by rw [Int.tmod_eq_emod_of_nonneg (by omega)]; omega
    have e3 : (n : Int) % 256 = ((m : Nat) : Int) := by omega
    have e4 : (n : Int).tmod 256 = ((m : Nat) : Int) := by rw [Int.tmod_eq_emod_of_nonneg (by omega)]; omega
    clear hm
    go_enter Tryd.func5, Tryd.ntmps5
    go_wp2
    go_ret
    exact ⟨rfl, rfl⟩

set_option maxRecDepth 100000 in
theorem at_1 {w : World} {a : Option Addr} {n : Nat} (cap : Nat) (hr : Row w a n) (hn : n ≤ 1048576) : ∃ m : Nat, m < 256 ∧ Calls Tryd.prog 5 #[.slice a n cap, .int .i64 1] w fun e w' => e = .returned (.int .i64 (m : Int)) ∧ w' = w := by
  by_cases h : 1 < n
  · obtain ⟨b, off, z, rfl, hb, hc, hz0, hz1⟩ := hr 1 h
    obtain ⟨m, rfl⟩ : ∃ m : Nat, z = (m : Int) := ⟨z.toNat, by omega⟩
    refine ⟨m, by omega, ?_⟩
    skip
    clear hr hb
    go_enter Tryd.func5, Tryd.ntmps5
    go_wp2
    go_ret
    exact ⟨rfl, rfl⟩
  · clear hr
    refine ⟨(7 + n) % 256, by omega, ?_⟩
    obtain ⟨m, hm⟩ : ∃ m, m = (7 + n) % 256 := ⟨_, rfl⟩
    rw [← hm]
    have e1 : (7 + (n : Int)) % 256 = (m : Int) := by omega
    have e2 : (7 + (n : Int)).tmod 256 = (m : Int) := by rw [Int.tmod_eq_emod_of_nonneg (by omega)]; omega
    have e3 : (n : Int) % 256 = (((n % 256 : Nat) : Nat) : Int) := by omega
    have e4 : (n : Int).tmod 256 = (((n % 256 : Nat) : Nat) : Int) := by rw [Int.tmod_eq_emod_of_nonneg (by omega)]; omega
    clear hm
    go_enter Tryd.func5, Tryd.ntmps5
    go_wp2
    go_ret
    exact ⟨rfl, rfl⟩

set_option maxRecDepth 100000 in
theorem at_2 {w : World} {a : Option Addr} {n : Nat} (cap : Nat) (hr : Row w a n) (hn : n ≤ 1048576) : ∃ m : Nat, m < 256 ∧ Calls Tryd.prog 5 #[.slice a n cap, .int .i64 2] w fun e w' => e = .returned (.int .i64 (m : Int)) ∧ w' = w := by
  by_cases h : 2 < n
  · obtain ⟨b, off, z, rfl, hb, hc, hz0, hz1⟩ := hr 2 h
    obtain ⟨m, rfl⟩ : ∃ m : Nat, z = (m : Int) := ⟨z.toNat, by omega⟩
    refine ⟨m, by omega, ?_⟩
    skip
    clear hr hb
    go_enter Tryd.func5, Tryd.ntmps5
    go_wp2
    go_ret
    exact ⟨rfl, rfl⟩
  · clear hr
    refine ⟨(14 + n) % 256, by omega, ?_⟩
    obtain ⟨m, hm⟩ : ∃ m, m = (14 + n) % 256 := ⟨_, rfl⟩
    rw [← hm]
    have e1 : (14 + (n : Int)) % 256 = (m : Int) := by omega
    have e2 : (14 + (n : Int)).tmod 256 = (m : Int) := by rw [Int.tmod_eq_emod_of_nonneg (by omega)]; omega
    have e3 : (n : Int) % 256 = (((n % 256 : Nat) : Nat) : Int) := by omega
    have e4 : (n : Int).tmod 256 = (((n % 256 : Nat) : Nat) : Int) := by rw [Int.tmod_eq_emod_of_nonneg (by omega)]; omega
    clear hm
    go_enter Tryd.func5, Tryd.ntmps5
    go_wp2
    go_ret
    exact ⟨rfl, rfl⟩

set_option maxRecDepth 100000 in
theorem at_3 {w : World} {a : Option Addr} {n : Nat} (cap : Nat) (hr : Row w a n) (hn : n ≤ 1048576) : ∃ m : Nat, m < 256 ∧ Calls Tryd.prog 5 #[.slice a n cap, .int .i64 3] w fun e w' => e = .returned (.int .i64 (m : Int)) ∧ w' = w := by
  by_cases h : 3 < n
  · obtain ⟨b, off, z, rfl, hb, hc, hz0, hz1⟩ := hr 3 h
    obtain ⟨m, rfl⟩ : ∃ m : Nat, z = (m : Int) := ⟨z.toNat, by omega⟩
    refine ⟨m, by omega, ?_⟩
    skip
    clear hr hb
    go_enter Tryd.func5, Tryd.ntmps5
    go_wp2
    go_ret
    exact ⟨rfl, rfl⟩
  · clear hr
    refine ⟨(21 + n) % 256, by omega, ?_⟩
    obtain ⟨m, hm⟩ : ∃ m, m = (21 + n) % 256 := ⟨_, rfl⟩
    rw [← hm]
    have e1 : (21 + (n : Int)) % 256 = (m : Int) := by omega
    have e2 : (21 + (n : Int)).tmod 256 = (m : Int) := by rw [Int.tmod_eq_emod_of_nonneg (by omega)]; omega
    have e3 : (n : Int) % 256 = (((n % 256 : Nat) : Nat) : Int) := by omega
    have e4 : (n : Int).tmod 256 = (((n % 256 : Nat) : Nat) : Int) := by rw [Int.tmod_eq_emod_of_nonneg (by omega)]; omega
    clear hm
    go_enter Tryd.func5, Tryd.ntmps5
    go_wp2
    go_ret
    exact ⟨rfl, rfl⟩

theorem ham_facts : ∀ n : Fin 16, ∀ a : Fin 8, unF (hm n.val) 16 = ((n.val : Int), 0) ∧ unF (hm n.val ^^^ 2 ^ a.val) 16 = ((n.val : Int), 1) := by decide +kernel
theorem ham_two : ∀ n : Fin 16, ∀ a b : Fin 8, unF (hm n.val ^^^ 2 ^ a.val ^^^ 2 ^ b.val) 16 = if a.val = b.val then ((n.val : Int), 0) else (-1, 2) := by decide +kernel
theorem ham_far : ∀ n m : Fin 16, if n.val = m.val then ones (hm n.val ^^^ hm m.val) = 0 else 4 ≤ ones (hm n.val ^^^ hm m.val) := by decide +kernel

set_option maxHeartbeats 8000000 in
set_option maxRecDepth 100000 in
theorem walk_fham {w : World} {a : Option Addr} {n cap : Nat} (hs : Hms w) (hr : Row w a n) (hn : n ≤ 9223372036854775807) : Calls Tryd.prog 3 #[.slice a n cap] w fun e w' => e = .returned (.bool true) ∧ Below w.heap.size w w' := by
  have i0 := big_x (w := w) a n cap hn
  by_cases hbig : 1048576 < n
  · rw [decide_eq_true (by omega)] at i0
    clear hr hs
    go_enter Tryd.func3, Tryd.ntmps3
    go_wp2_with (first | (go_at_call 4; (with_reducible refine (i0).mono ?_); rintro e w' ⟨rfl, hw⟩; obtain rfl := hw.symm))
    go_ret
    exact ⟨rfl, Below.refl _ _⟩
  rw [decide_eq_false (by omega)] at i0
  obtain ⟨m0, b0, a0⟩ := at_0 cap hr (by omega)
  obtain ⟨m1, b1, a1⟩ := at_1 cap hr (by omega)
  obtain ⟨m2, b2, a2⟩ := at_2 cap hr (by omega)
  obtain ⟨m3, b3, a3⟩ := at_3 cap hr (by omega)
  obtain ⟨N, hN⟩ : ∃ N : Nat, N = m0 % 16 := ⟨_, rfl⟩
  obtain ⟨M, hM⟩ : ∃ M : Nat, M = m1 % 16 := ⟨_, rfl⟩
  obtain ⟨A, hA⟩ : ∃ A : Nat, A = m2 % 8 := ⟨_, rfl⟩
  obtain ⟨B, hB⟩ : ∃ B : Nat, B = m3 % 8 := ⟨_, rfl⟩
  have r0 : (m0 : Int) % 16 = (N : Int) := by omega
  have r1 : (m1 : Int) % 16 = (M : Int) := by omega
  have r2 : (m2 : Int) % 8 = (A : Int) := by omega
  have r3 : (m3 : Int) % 8 = (B : Int) := by omega
  have q0 : (m0 : Int).tmod 16 = (N : Int) := by rw [Int.tmod_eq_emod_of_nonneg (by omega)]; omega
  have q1 : (m1 : Int).tmod 16 = (M : Int) := by rw [Int.tmod_eq_emod_of_nonneg (by omega)]; omega
  have q2 : (m2 : Int).tmod 8 = (A : Int) := by rw [Int.tmod_eq_emod_of_nonneg (by omega)]; omega
  have q3 : (m3 : Int).tmod 8 = (B : Int) := by rw [Int.tmod_eq_emod_of_nonneg (by omega)]; omega
  have lN : N < 16 := by omega
  have lM : M < 16 := by omega
  have lA : A < 8 := by omega
  have lB : B < 8 := by omega
  clear hN hM hA hB b0 b1 b2 b3 hr
  have f1 := (ham_facts ⟨N, lN⟩ ⟨A, lA⟩).1
  have f2 := (ham_facts ⟨N, lN⟩ ⟨A, lA⟩).2
  have f3 := ham_two ⟨N, lN⟩ ⟨A, lA⟩ ⟨B, lB⟩
  have f4 := ham_far ⟨N, lN⟩ ⟨M, lM⟩
  have g1 := (hm_eq ⟨N, lN⟩).2.2.1
  have g2 := (hm_eq ⟨M, lM⟩).2.2.1
  simp only at f1 f2 f3 f4 g1 g2
  have j1 := iHam_yes lN hs
  have j2 := iHam_yes lM hs
  have pA : 2 ^ A < 256 := Nat.lt_of_lt_of_le (Nat.pow_lt_pow_right (by omega) lA) (by decide)
  have pB : 2 ^ B < 256 := Nat.lt_of_lt_of_le (Nat.pow_lt_pow_right (by omega) lB) (by decide)
  have x1 : hm N ^^^ 2 ^ A < 256 := Nat.xor_lt_two_pow (n := 8) g1 pA
  have x2 : hm N ^^^ 2 ^ A ^^^ 2 ^ B < 256 := Nat.xor_lt_two_pow (n := 8) x1 pB
  have x3 : hm N ^^^ hm M < 256 := Nat.xor_lt_two_pow (n := 8) g1 g2
  have k1 := iUn_yes x1 hs
  have k2 := iUn_yes x2 hs
  have k3 := iUn_yes g1 hs
  rw [f1] at k3
  rw [f2] at k1
  obtain ⟨p, q, hpq⟩ : ∃ p q : Int, (if A = B then ((N : Int), (0 : Int)) else (-1, 2)) = (p, q) := ⟨_, _, rfl⟩
  rw [f3, hpq] at k2
  have HPQ : Hid _ := hpq
  clear hpq
  have e1 : bits .xor .i64 ((hm N : Nat) : Int) ((2 ^ A : Nat) : Int) = ((hm N ^^^ 2 ^ A : Nat) : Int) := xor_nat (by omega) (by omega)
  have e2 : bits .xor .i64 ((hm N ^^^ 2 ^ A : Nat) : Int) ((2 ^ B : Nat) : Int) = ((hm N ^^^ 2 ^ A ^^^ 2 ^ B : Nat) : Int) := xor_nat (by omega) (by omega)
  have e3 : bits .xor .i64 ((hm N : Nat) : Int) ((hm M : Nat) : Int) = ((hm N ^^^ hm M : Nat) : Int) := xor_nat (by omega) (by omega)
  have wA : IntKind.u64.wrap (A : Int) = (A : Int) := u64w (by omega)
  have wB : IntKind.u64.wrap (B : Int) = (B : Int) := u64w (by omega)
  clear f1 f2 f3 hs
  obtain ⟨PA, hPA⟩ : ∃ PA : Nat, PA = 2 ^ A := ⟨_, rfl⟩
  obtain ⟨PB, hPB⟩ : ∃ PB : Nat, PB = 2 ^ B := ⟨_, rfl⟩
  have sA : wrap64 ((2 : Int) ^ A) = (PA : Int) := by
    have e : (2 : Int) ^ A = (PA : Int) := by rw [hPA]; simp
    rw [e]; unfold wrap64; omega
  have sB : wrap64 ((2 : Int) ^ B) = (PB : Int) := by
    have e : (2 : Int) ^ B = (PB : Int) := by rw [hPB]; simp
    rw [e]; unfold wrap64; omega
  rw [← hPA] at pA x1 x2 k1 k2 e1 e2
  rw [← hPB] at pB x2 k2 e2
  generalize (hm N ^^^ PA ^^^ PB) = X2 at *
  generalize (hm N ^^^ PA) = X1 at *
  clear hPA hPB
  obtain ⟨X3, hX3⟩ : ∃ X3 : Nat, X3 = hm N ^^^ hm M := ⟨_, rfl⟩
  rw [← hX3] at e3 f4 x3
  have jm : N = M → hm N = hm M := fun h => by rw [h]
  have HF : Hid (if N = M then ones X3 = 0 else 4 ≤ ones X3) := f4
  clear f4 hX3 jm
  have o1 := ones_le X3
  obtain ⟨R, hR⟩ : ∃ R : Nat, R = ones X3 := ⟨_, rfl⟩
  have HR : Hid (R = ones X3) := hR
  clear hR o1
  generalize hm N = HN at *
  generalize hm M = HM at *
  go_enter Tryd.func3, Tryd.ntmps3
  go_wp2_with (first | (go_at_call 4; (with_reducible refine (i0).mono ?_); rintro e w' ⟨rfl, hw⟩; obtain rfl := hw.symm) | (go_at_call 5; (with_reducible refine (a0).mono ?_); rintro e w' ⟨rfl, hw⟩; obtain rfl := hw.symm) | (go_at_call 5; (with_reducible refine (a1).mono ?_); rintro e w' ⟨rfl, hw⟩; obtain rfl := hw.symm) | (go_at_call 5; (with_reducible refine (a2).mono ?_); rintro e w' ⟨rfl, hw⟩; obtain rfl := hw.symm) | (go_at_call 5; (with_reducible refine (a3).mono ?_); rintro e w' ⟨rfl, hw⟩; obtain rfl := hw.symm) | (go_at_call 6; (with_reducible refine (j1).mono ?_); rintro e w' ⟨rfl, hw⟩; obtain rfl := hw.symm) | (go_at_call 6; (with_reducible refine (j2).mono ?_); rintro e w' ⟨rfl, hw⟩; obtain rfl := hw.symm) | (go_at_call 7; (with_reducible refine (k1).mono ?_); rintro e w' ⟨rfl, hw⟩; obtain rfl := hw.symm) | (go_at_call 7; (with_reducible refine (k2).mono ?_); rintro e w' ⟨rfl, hw⟩; obtain rfl := hw.symm) | (go_at_call 7; (with_reducible refine (k3).mono ?_); rintro e w' ⟨rfl, hw⟩; obtain rfl := hw.symm))
  clear j1 j2 k1 k2 k3 a0 a1 a2 a3 e1 e2 e3 i0
  go_loopw [14, 15] (fun nv xv wr => ∃ k n : Nat, xv = .int .i64 (k : Int) ∧ nv = .int .i64 (n : Int) ∧ k < 256 ∧ n ≤ 8 ∧ wr = w ∧ Hid (n + ones k = R)) (fun _ xv _ => (intOf xv).toNat)
  case atStart => exact ⟨X3, 0, rfl, rfl, x3, by omega, rfl, (Nat.zero_add _).trans HR.out.symm⟩
  case round =>
    obtain ⟨k, n2, rfl, rfl, hk, hn2, hw, hrel⟩ := hrel
    obtain rfl := hw.symm
    by_cases h1 : 0 < k
    · obtain ⟨q, hq⟩ : ∃ q : Nat, q = k / 2 := ⟨_, rfl⟩
      obtain ⟨b, hb⟩ : ∃ b : Nat, b = k % 2 := ⟨_, rfl⟩
      have e1 : (k : Int) / 2 = (q : Int) := by omega
      have e3 : (k : Int).tdiv 2 = (q : Int) := by rw [Int.tdiv_eq_ediv_of_nonneg (by omega)]; omega
      have e4 : (k : Int) % 2 = (b : Int) := by omega
      have e5 : (k : Int).tmod 2 = (b : Int) := by rw [Int.tmod_eq_emod_of_nonneg (by omega)]; omega
      have hz2 := HR.out
      have hz3 := ones_le X3
      have HS : Hid (n2 + b + ones q = R) := by have := hrel.out; rw [ones_step hk, ← hq, ← hb] at this; show n2 + b + ones q = R; omega
      have hn3 : n2 + b ≤ 8 := by have := HS.out; omega
      have hlt : q < k := by omega
      clear hq hb hrel hz2 hz3
      go_wp2
      go_roundw
      case rel => exact ⟨q, n2 + b, rfl, by go_num, by omega, hn3, by trivial, HS.out⟩
      case measure => simp [intOf]; omega
    · obtain rfl : k = 0 := by omega
      have hzy : n2 = R := by have := hrel.out; rw [ones_zero] at this; exact this
      subst hzy
      have hfar : if N = M then n2 = 0 else 4 ≤ n2 := by have := HF.out; rw [← HR.out] at this; exact this
      clear hrel HR HF r0 r1 r2 r3 q0 q1 q2 q3
      by_cases hab : A = B
      · have hp := HPQ.out
        rw [if_pos hab] at hp
        obtain rfl : (N : Int) = p := congrArg Prod.fst hp
        obtain rfl : (0 : Int) = q := congrArg Prod.snd hp
        clear hp HPQ
        subst hab
        by_cases hnm : N = M
        · rw [if_pos hnm] at hfar
          subst hnm hfar
          go_wp2
          go_ret
          exact ⟨rfl, Below.refl _ _⟩
        · rw [if_neg hnm] at hfar
          have t1 : (N == M) = false := by simp; exact hnm
          have t2 : ((N : Int) == (M : Int)) = false := by simp; omega
          have t3 : ((n2 : Int) == 0) = false := by simp; omega
          have t4 : decide (4 ≤ (n2 : Int)) = true := by simp; omega
          go_wp2
          go_ret
          exact ⟨rfl, Below.refl _ _⟩
      · have hp := HPQ.out
        rw [if_neg hab] at hp
        obtain rfl : (-1 : Int) = p := congrArg Prod.fst hp
        obtain rfl : (2 : Int) = q := congrArg Prod.snd hp
        clear hp HPQ
        have t5 : (A == B) = false := by simp; exact hab
        have t6 : ((A : Int) == (B : Int)) = false := by simp; omega
        have t7 : ((A : Int) != (B : Int)) = true := by simp; omega
        by_cases hnm : N = M
        · rw [if_pos hnm] at hfar
          subst hnm hfar
          go_wp2
          go_ret
          exact ⟨rfl, Below.refl _ _⟩
        · rw [if_neg hnm] at hfar
          have t1 : (N == M) = false := by simp; exact hnm
          have t2 : ((N : Int) == (M : Int)) = false := by simp; omega
          have t3 : ((n2 : Int) == 0) = false := by simp; omega
          have t4 : decide (4 ≤ (n2 : Int)) = true := by simp; omega
          go_wp2
          go_ret
          exact ⟨rfl, Below.refl _ _⟩
end Go.Proofs.YtpiemjabmipldaaDoor
