/- Powers, inverses, units: the program. -/
import Derived.Test.YtabdondefoldaaaDoorR2
import Derived.Test.YtabdondefoldaaaDoorE2
namespace Go.Proofs.YtabdondefoldaaaDoor
open Go.RowKit

/-- The three primes, as they lie in memory. -/
structure Prs (w : World) : Prop where
  c0 : w.cell? ⟨0, 0, none⟩ = some (.int .i64 998244353)
  c1 : w.cell? ⟨0, 1, none⟩ = some (.int .i64 167772161)
  c2 : w.cell? ⟨0, 2, none⟩ = some (.int .i64 469762049)

theorem Prs.below {w w' : World} (h : Prs w) (hb : Below w.heap.size w w') : Prs w' :=
  ⟨(hb.cell (World.block_lt_of_cell? w _ h.c0)).trans h.c0, (hb.cell (World.block_lt_of_cell? w _ h.c1)).trans h.c1, (hb.cell (World.block_lt_of_cell? w _ h.c2)).trans h.c2⟩

theorem idx0 (W : World) : Sem.run Tryd.prog (Instr.index 68 (.agg #[.int .i64 998244353, .int .i64 167772161, .int .i64 469762049]) (.int .i64 0)) W = .ok (.int .i64 998244353) W := by kernel_rfl
theorem idx1 (W : World) : Sem.run Tryd.prog (Instr.index 68 (.agg #[.int .i64 998244353, .int .i64 167772161, .int .i64 469762049]) (.int .i64 1)) W = .ok (.int .i64 167772161) W := by kernel_rfl
theorem idx2 (W : World) : Sem.run Tryd.prog (Instr.index 68 (.agg #[.int .i64 998244353, .int .i64 167772161, .int .i64 469762049]) (.int .i64 2)) W = .ok (.int .i64 469762049) W := by kernel_rfl
theorem types3 : 3 < Tryd.prog.types.size := of_decide_eq_true (by kernel_rfl)
theorem size3 : (Tryd.prog.types[3]'types3).size = 1 := by kernel_rfl

set_option maxHeartbeats 1000000 in
theorem iPrm_any (p : Int) {w : World} (hs : Prs w) : Calls Tryd.prog 40 #[.int .i64 p] w fun e w' => e = .returned (.bool (decide (Prm p))) ∧ w' = w := by
  obtain ⟨c0, c1, c2⟩ := hs
  have x0 := idx0 w
  have x1 := idx1 w
  have x2 := idx2 w
  obtain ⟨d, hd⟩ : ∃ d, d = decide (Prm p) := ⟨_, rfl⟩
  rw [← hd]
  have HD : Hid _ := hd
  clear hd
  go_enter Tryd.func40, Tryd.ntmps40
  go_wp2
  go_loopw [4, 6] (fun _ i wr => ∃ k : Nat, i = .int .i64 k ∧ k ≤ 3 ∧ wr = w ∧ Hid ((0 < k → p ≠ 998244353) ∧ (1 < k → p ≠ 167772161) ∧ (2 < k → p ≠ 469762049))) (fun _ i _ => 3 - (intOf i).toNat)
  case atStart => exact ⟨0, rfl, by omega, rfl, fun h => by omega, fun h => by omega, fun h => by omega⟩
  case round =>
    obtain ⟨k, rfl, hk, hw, hrel⟩ := hrel
    obtain rfl := hw.symm
    have : k = 0 ∨ k = 1 ∨ k = 2 ∨ k = 3 := by omega
    rcases this with rfl | rfl | rfl | rfl
    · by_cases hp : p = 998244353
      · have E : Hid (true = d) := by rw [HD.out, hp]; rfl
        subst hp
        go_wp2
        go_ret
        exact ⟨congrArg (fun z => Ending.returned (.bool z)) E.out, rfl⟩
      · have HP : Hid (p ≠ 998244353) := hp
        have hp2 : (p == 998244353) = false := by simp; exact hp
        clear hp
        go_wp2
        go_roundw
        case rel => exact ⟨1, rfl, by omega, by trivial, fun _ => HP.out, fun h => by omega, fun h => by omega⟩
        case measure => simp [intOf]
    · by_cases hp : p = 167772161
      · have E : Hid (true = d) := by rw [HD.out, hp]; rfl
        subst hp
        go_wp2
        go_ret
        exact ⟨congrArg (fun z => Ending.returned (.bool z)) E.out, rfl⟩
      · have HP : Hid (p ≠ 167772161) := hp
        have hp2 : (p == 167772161) = false := by simp; exact hp
        clear hp
        go_wp2
        go_roundw
        case rel => exact ⟨2, rfl, by omega, by trivial, fun h => hrel.out.1 (by omega), fun _ => HP.out, fun h => by omega⟩
        case measure => simp [intOf]
    · by_cases hp : p = 469762049
      · have E : Hid (true = d) := by rw [HD.out, hp]; rfl
        subst hp
        go_wp2
        go_ret
        exact ⟨congrArg (fun z => Ending.returned (.bool z)) E.out, rfl⟩
      · have HP : Hid (p ≠ 469762049) := hp
        have hp2 : (p == 469762049) = false := by simp; exact hp
        clear hp
        go_wp2
        go_roundw
        case rel => exact ⟨3, rfl, by omega, by trivial, fun h => hrel.out.1 (by omega), fun h => hrel.out.2.1 (by omega), fun _ => HP.out⟩
        case measure => simp [intOf]
    · have E : Hid (false = d) := by
        rw [HD.out]
        refine (decide_eq_false (fun h => ?_)).symm
        rcases h with h | h | h
        · exact hrel.out.1 (by omega) h
        · exact hrel.out.2.1 (by omega) h
        · exact hrel.out.2.2 (by omega) h
      go_wp2
      go_ret
      exact ⟨congrArg (fun z => Ending.returned (.bool z)) E.out, rfl⟩

theorem iRes_any (x p : Int) (_ : 1 ≤ p) (w : World) : Calls Tryd.prog 41 #[.int .i64 x, .int .i64 p] w fun e w' => e = .returned (.bool (decide (0 ≤ x ∧ x ≤ p - 1))) ∧ w' = w := by
  go_enter Tryd.func41, Tryd.ntmps41
  by_cases h : 0 ≤ x
  · by_cases h1 : x < p
    · go_wp2
      go_ret
      exact ⟨by simp [h]; omega, rfl⟩
    · go_wp2
      go_ret
      exact ⟨by simp; omega, rfl⟩
  · go_wp2
    go_ret
    exact ⟨by simp; omega, rfl⟩

set_option maxRecDepth 100000 in
theorem len_zero (w : World) : Calls Tryd.prog 31 #[.int .u64 0] w fun e w' => e = .returned (.int .i64 0) ∧ w' = w := by
  go_enter Tryd.func31, Tryd.ntmps31
  go_wp2
  go_ret
  exact ⟨by kernel_rfl, rfl⟩

theorem len_nat (m : Nat) (h1 : (m : Int) ≤ 4000000000000000000) : ∃ L : Nat, L ≤ 64 ∧ m < 2 ^ L ∧ ∀ w, Calls Tryd.prog 31 #[.int .u64 m] w fun e w' => e = .returned (.int .i64 (L : Int)) ∧ w' = w := by
  by_cases h0 : m = 0
  · subst h0
    exact ⟨0, by omega, by decide, len_zero⟩
  · have key : ∀ w, ∃ L : Nat, Bits (m : Int) L ∧ Calls Tryd.prog 31 #[.int .u64 m] w fun e w' => e = .returned (.int .i64 (L : Int)) ∧ w' = w := by
      intro w
      obtain ⟨L, hL⟩ : ∃ L : Nat, Bits (m : Int) L := by
        refine ⟨Nat.log2 m + 1, ?_, ?_, ?_⟩
        · have : Nat.log2 m < 64 := (Nat.log2_lt h0).2 (by omega)
          omega
        · have := Nat.lt_log2_self (n := m)
          exact_mod_cast this
        · have := Nat.log2_self_le h0
          have e : 2 ^ (Nat.log2 m + 1) ≤ 2 * m + 1 := by rw [Nat.pow_succ]; omega
          exact_mod_cast e
      have uniq : ∀ L2, Bits (m : Int) L2 → L2 = L := by
        intro L2 h2
        have a1 : m < 2 ^ L := by exact_mod_cast hL.lt
        have a2 : 2 ^ L ≤ 2 * m + 1 := by exact_mod_cast hL.ge
        have a3 : m < 2 ^ L2 := by exact_mod_cast h2.lt
        have a4 : 2 ^ L2 ≤ 2 * m + 1 := by exact_mod_cast h2.ge
        rcases Nat.lt_trichotomy L L2 with h | h | h
        · have := Nat.pow_le_pow_right (n := 2) (by omega) (show L + 1 ≤ L2 by omega)
          rw [Nat.pow_succ] at this
          omega
        · exact h.symm
        · have := Nat.pow_le_pow_right (n := 2) (by omega) (show L2 + 1 ≤ L by omega)
          rw [Nat.pow_succ] at this
          omega
      refine ⟨L, hL, ?_⟩
      have i1 := len_any (m : Int) w (by omega) (by omega)
      have i2 : Calls Tryd.prog 43 #[.int .u64 m] w fun e w' => e = .returned (.int .i64 (L : Int)) ∧ w' = w := i1.mono (by
        rintro e w' ⟨L2, hb, rfl, rfl⟩
        rw [uniq L2 hb]
        exact ⟨rfl, rfl⟩)
      clear i1
      go_enter Tryd.func31, Tryd.ntmps31
      go_wp2_with (go_at_call 43; (with_reducible refine (i2).mono ?_); rintro e w' ⟨rfl, hw⟩; obtain rfl := hw.symm)
      go_ret
      exact ⟨rfl, rfl⟩
    obtain ⟨L, hL, _⟩ := key default
    refine ⟨L, hL.le, by exact_mod_cast hL.lt, fun w => ?_⟩
    obtain ⟨L2, hL2, h2⟩ := key w
    have a1 : m < 2 ^ L := by exact_mod_cast hL.lt
    have a2 : 2 ^ L ≤ 2 * m + 1 := by exact_mod_cast hL.ge
    have a3 : m < 2 ^ L2 := by exact_mod_cast hL2.lt
    have a4 : 2 ^ L2 ≤ 2 * m + 1 := by exact_mod_cast hL2.ge
    have e : L2 = L := by
      rcases Nat.lt_trichotomy L L2 with h | h | h
      · have := Nat.pow_le_pow_right (n := 2) (by omega) (show L + 1 ≤ L2 by omega)
        rw [Nat.pow_succ] at this
        omega
      · exact h.symm
      · have := Nat.pow_le_pow_right (n := 2) (by omega) (show L2 + 1 ≤ L by omega)
        rw [Nat.pow_succ] at this
        omega
    rw [← e]
    exact h2

theorem iw {n : Int} (h0 : 0 ≤ n) (h1 : n < 9223372036854775808) : IntKind.i64.wrap n = n := by
  unfold IntKind.wrap
  have e : n % (2 ^ IntKind.i64.bits : Int) = n := Int.emod_eq_of_lt h0 (by show n < 18446744073709551616; omega)
  simp only [e]
  rw [if_neg]
  simp [IntKind.signed, IntKind.bits]
  omega

theorem and_i64 (a b : Nat) (ha : a < 4611686018427387904) (hb : b < 4611686018427387904) : bits .and .i64 (a : Int) (b : Int) = ((a &&& b : Nat) : Int) := by
  have hx : a &&& b < 2 ^ 62 := Nat.and_lt_two_pow _ (by omega)
  have h1 : (BitVec.ofInt 64 (a : Int)).toNat = a := by
    rw [BitVec.ofInt_natCast, BitVec.toNat_ofNat]; exact Nat.mod_eq_of_lt (by omega)
  have h2 : (BitVec.ofInt 64 (b : Int)).toNat = b := by
    rw [BitVec.ofInt_natCast, BitVec.toNat_ofNat]; exact Nat.mod_eq_of_lt (by omega)
  show IntKind.i64.wrap ((BitVec.ofInt 64 (a : Int) &&& BitVec.ofInt 64 (b : Int)).toNat : Int) = _
  rw [BitVec.toNat_and, h1, h2]
  exact iw (by omega) (by omega)

theorem and_one (y : Nat) (h : y < 4611686018427387904) : bits .and .i64 (y : Int) 1 = ((y % 2 : Nat) : Int) := by
  have := and_i64 y 1 h (by omega)
  rw [Nat.and_one_is_mod] at this
  exact this

set_option maxHeartbeats 2000000 in
theorem iPow_any (a n p : Int) {w : World} (hs : Prs w) : Calls Tryd.prog 44 #[.int .i64 a, .int .i64 n, .int .i64 p] w fun e w' => e = .returned (.int .i64 (pwV a n p)) ∧ w' = w := by
  have i1 := iPrm_any p hs
  by_cases hp : Prm p
  · rw [decide_eq_true hp] at i1
    have hpb := hp.bounds
    have i2 := iRes_any a p (by omega)
    by_cases ha : 0 ≤ a ∧ a ≤ p - 1
    · rw [decide_eq_true ha] at i2
      by_cases hn : 0 ≤ n ∧ n ≤ 4000000000000000000
      · have E : Hid (a ^ n.toNat % p = pwV a n p) := pwV_yes hp ha hn
        generalize pwV a n p = R at E
        obtain ⟨m, rfl⟩ := Int.eq_ofNat_of_zero_le hn.1
        rw [Int.toNat_natCast] at E
        obtain ⟨L, hL64, hLm, i3⟩ := len_nat m hn.2
        have HLM : Hid (m < 2 ^ L) := hLm
        clear hp hLm hs
        go_enter Tryd.func44, Tryd.ntmps44
        go_wp2_with (first | (go_at_call 40; (with_reducible refine (i1).mono ?_); rintro e w' ⟨rfl, hw⟩; obtain rfl := hw.symm) | (go_at_call 41; (with_reducible refine (i2 _).mono ?_); rintro e w' ⟨rfl, hw⟩; obtain rfl := hw.symm) | (go_at_call 31; (with_reducible refine (i3 _).mono ?_); rintro e w' ⟨rfl, hw⟩; obtain rfl := hw.symm))
        go_loopw [0, 7, 8, 29] (fun av rv _ kv wr => ∃ (A r : Int) (k : Nat), av = .int .i64 A ∧ rv = .int .i64 r ∧ kv = .int .i64 k ∧ wr = w ∧ k ≤ L ∧ (0 ≤ A ∧ A ≤ p - 1) ∧ (0 ≤ r ∧ r ≤ p - 1) ∧ Hid (r * A ^ (m / 2 ^ k) % p = R)) (fun _ _ _ kv _ => L - (intOf kv).toNat)
        case atStart => exact ⟨a, 1, 0, rfl, rfl, rfl, rfl, by omega, ha, by omega, by show 1 * a ^ (m / 2 ^ 0) % p = R; rw [Int.one_mul, Nat.pow_zero, Nat.div_one]; exact E.out⟩
        case round =>
          obtain ⟨A, r, k, rfl, rfl, rfl, hw, hk, hA, hr, hrel⟩ := hrel
          obtain rfl := hw.symm
          by_cases h0 : k < L
          · have m1 := mul_lt (a := A) (b := A) (p := p) hA.1 (by omega) hA.1 (by omega) hpb.2
            have m2 := mul_lt (a := r) (b := A) (p := p) hr.1 (by omega) hA.1 (by omega) hpb.2
            have q1 := Int.emod_nonneg (A * A) (show p ≠ 0 by omega)
            have q2 := Int.emod_lt_of_pos (A * A) (show 0 < p by omega)
            have q3 := Int.emod_nonneg (r * A) (show p ≠ 0 by omega)
            have q4 := Int.emod_lt_of_pos (r * A) (show 0 < p by omega)
            obtain ⟨y, hy⟩ : ∃ y, y = m / 2 ^ k := ⟨_, rfl⟩
            have hy2 : m / 2 ^ (k + 1) = y / 2 := by rw [hy, Nat.pow_succ, Nat.div_div_eq_div_mul]
            have e1 : (m : Int) / 2 ^ k = (y : Int) := by rw [hy, Int.natCast_ediv, Int.natCast_pow]; rfl
            have hym : y ≤ m := by rw [hy]; exact Nat.div_le_self _ _
            have e2 := and_one y (by omega)
            have HR := hrel.out
            rw [← hy] at HR
            have HY : Hid (m / 2 ^ (k + 1) = y / 2) := hy2
            clear hy hy2 hrel
            rcases Nat.mod_two_eq_zero_or_one y with h1 | h1
            · have S : Hid (r * (A * A % p) ^ (m / 2 ^ (k + 1)) % p = R) := by
                show r * (A * A % p) ^ (m / 2 ^ (k + 1)) % p = R
                rw [HY.out, pow_even, show 2 * (y / 2) = y by omega]
                exact HR
              rw [h1] at e2
              clear HR HY h1
              go_wp2
              go_roundw
              case rel => exact ⟨A * A % p, r, k + 1, rfl, rfl, by go_num, by trivial, by omega, by omega, by omega, S.out⟩
              case measure => simp [intOf]; omega
            · have S : Hid (r * A % p * (A * A % p) ^ (m / 2 ^ (k + 1)) % p = R) := by
                show r * A % p * (A * A % p) ^ (m / 2 ^ (k + 1)) % p = R
                rw [HY.out, pow_odd, show 2 * (y / 2) + 1 = y by omega]
                exact HR
              rw [h1] at e2
              clear HR HY h1
              go_wp2
              go_roundw
              case rel => exact ⟨A * A % p, r * A % p, k + 1, rfl, rfl, by go_num, by trivial, by omega, by omega, by omega, S.out⟩
              case measure => simp [intOf]; omega
          · obtain rfl : k = L := by omega
            have e0 : r = R := by
              have := hrel.out
              rw [Nat.div_eq_of_lt HLM.out, Int.pow_zero, Int.mul_one, Int.emod_eq_of_lt hr.1 (by omega)] at this
              exact this
            clear hrel
            go_wp2
            go_ret
            exact ⟨rfl, rfl⟩
      · have E : Hid (0 = pwV a n p) := pwV_no (fun h => hn h.2.2)
        have b1 : n < 0 ∨ 4000000000000000000 < n := by omega
        clear hn hp
        rcases b1 with b1 | b1
        · go_enter Tryd.func44, Tryd.ntmps44
          go_wp2_with (first | (go_at_call 40; (with_reducible refine (i1).mono ?_); rintro e w' ⟨rfl, hw⟩; obtain rfl := hw.symm) | (go_at_call 41; (with_reducible refine (i2 _).mono ?_); rintro e w' ⟨rfl, hw⟩; obtain rfl := hw.symm))
          go_ret
          exact ⟨congrArg (fun z => Ending.returned (.int .i64 z)) E.out, rfl⟩
        · have b2 : decide (n < 0) = false := by simp; omega
          go_enter Tryd.func44, Tryd.ntmps44
          go_wp2_with (first | (go_at_call 40; (with_reducible refine (i1).mono ?_); rintro e w' ⟨rfl, hw⟩; obtain rfl := hw.symm) | (go_at_call 41; (with_reducible refine (i2 _).mono ?_); rintro e w' ⟨rfl, hw⟩; obtain rfl := hw.symm))
          go_ret
          exact ⟨congrArg (fun z => Ending.returned (.int .i64 z)) E.out, rfl⟩
    · rw [decide_eq_false ha] at i2
      have E : Hid (0 = pwV a n p) := pwV_no (fun h => ha h.2.1)
      clear ha hp
      go_enter Tryd.func44, Tryd.ntmps44
      go_wp2_with (first | (go_at_call 40; (with_reducible refine (i1).mono ?_); rintro e w' ⟨rfl, hw⟩; obtain rfl := hw.symm) | (go_at_call 41; (with_reducible refine (i2 _).mono ?_); rintro e w' ⟨rfl, hw⟩; obtain rfl := hw.symm))
      go_ret
      exact ⟨congrArg (fun z => Ending.returned (.int .i64 z)) E.out, rfl⟩
  · rw [decide_eq_false hp] at i1
    have E : Hid (0 = pwV a n p) := pwV_no (fun h => hp h.1)
    clear hp
    go_enter Tryd.func44, Tryd.ntmps44
    go_wp2_with (go_at_call 40; (with_reducible refine (i1).mono ?_); rintro e w' ⟨rfl, hw⟩; obtain rfl := hw.symm)
    go_ret
    exact ⟨congrArg (fun z => Ending.returned (.int .i64 z)) E.out, rfl⟩

theorem pwV_not {a n p : Int} (hp : ¬ Prm p) : pwV a n p = 0 := (pwV_no (fun h => hp h.1)).symm

set_option maxHeartbeats 1000000 in
theorem iInv_any (a p : Int) {w : World} (hs : Prs w) : Calls Tryd.prog 33 #[.int .i64 a, .int .i64 p] w fun e w' => e = .returned (.int .i64 (ivV a p)) ∧ w' = w := by
  by_cases hp : Prm p
  · have hpb := hp.bounds
    have i1 := iPow_any a (p - 2) p hs
    have e : pwV a (p - 2) p = ivV a p := by
      by_cases ha : 1 ≤ a ∧ a ≤ p - 1
      · exact ivV_yes hp ha
      · rw [← ivV_no (fun h => ha h.2)]
        by_cases h0 : a = 0
        · subst h0
          rw [← pwV_yes hp (by omega) (by omega), Int.zero_pow (by omega)]
          rfl
        · exact (pwV_no (fun h => by have := h.2.1; omega)).symm
    rw [e] at i1
    generalize ivV a p = R at i1 ⊢
    clear hp e
    go_enter Tryd.func33, Tryd.ntmps33
    go_wp2_with (go_at_call 44; (with_reducible refine (i1).mono ?_); rintro e w' ⟨rfl, hw⟩; obtain rfl := hw.symm)
    go_ret
    exact ⟨rfl, rfl⟩
  · have i1 := fun n => iPow_any a n p hs
    simp only [pwV_not hp] at i1
    have e : ivV a p = 0 := (ivV_no (fun h => hp h.1)).symm
    rw [e]
    clear hp e
    go_enter Tryd.func33, Tryd.ntmps33
    go_wp2_with (go_at_call 44; (with_reducible refine (i1 _).mono ?_); rintro e w' ⟨rfl, hw⟩; obtain rfl := hw.symm)
    go_ret
    exact ⟨rfl, rfl⟩

theorem and_fin : ∀ k : Fin 256, (bits BinOp.and .i64 ((k.val : Int) + 1) ((k.val : Int) + 1 - 1) == 0) = decide (Whl ((k.val : Int) + 1)) := by decide +kernel

theorem and_whl {n : Int} (h1 : 1 ≤ n) (h2 : n ≤ 256) : (bits BinOp.and .i64 n (n - 1) == 0) = decide (Whl n) := by
  have h := and_fin ⟨(n - 1).toNat, by omega⟩
  have e : (((n - 1).toNat : Nat) : Int) + 1 = n := by omega
  simp only [e] at h
  exact h

set_option maxHeartbeats 1000000 in
theorem iWhl_any (n : Int) (w : World) : Calls Tryd.prog 15 #[.int .i64 n] w fun e w' => e = .returned (.bool (decide (Whl n))) ∧ w' = w := by
  by_cases h1 : 1 ≤ n
  · by_cases h2 : n ≤ 256
    · have e := and_whl h1 h2
      generalize decide (Whl n) = d at e ⊢
      go_enter Tryd.func15, Tryd.ntmps15
      go_wp2
      go_ret
      exact ⟨rfl, rfl⟩
    · have e : false = decide (Whl n) := (decide_eq_false (fun h => by have := h.bounds; omega)).symm
      generalize decide (Whl n) = d at e ⊢
      have E : Hid _ := e
      clear e
      go_enter Tryd.func15, Tryd.ntmps15
      go_wp2
      go_ret
      exact ⟨congrArg (fun z => Ending.returned (.bool z)) E.out, rfl⟩
  · have e : false = decide (Whl n) := (decide_eq_false (fun h => by have := h.bounds; omega)).symm
    generalize decide (Whl n) = d at e ⊢
    have E : Hid _ := e
    clear e
    go_enter Tryd.func15, Tryd.ntmps15
    go_wp2
    go_ret
    exact ⟨congrArg (fun z => Ending.returned (.bool z)) E.out, rfl⟩

set_option maxHeartbeats 1000000 in
theorem iUnit_any (n p : Int) {w : World} (hs : Prs w) : Calls Tryd.prog 32 #[.int .i64 n, .int .i64 p] w fun e w' => e = .returned (.int .i64 (unV n p)) ∧ w' = w := by
  have i2 := iWhl_any n
  by_cases hn : Whl n
  · rw [decide_eq_true hn] at i2
    have hnb := hn.bounds
    by_cases hp : Prm p
    · have hpb := hp.bounds
      have i3 := iPow_any 3 ((p - 1) / n) p hs
      rw [unV_yes hp hn] at i3
      generalize unV n p = R at i3 ⊢
      clear hp hn
      go_enter Tryd.func32, Tryd.ntmps32
      go_wp2_with (first | (go_at_call 15; (with_reducible refine (i2 _).mono ?_); rintro e w' ⟨rfl, hw⟩; obtain rfl := hw.symm) | (go_at_call 44; (with_reducible refine (i3).mono ?_); rintro e w' ⟨rfl, hw⟩; obtain rfl := hw.symm))
      go_ret
      exact ⟨rfl, rfl⟩
    · have i3 := fun m => iPow_any 3 m p hs
      simp only [pwV_not hp] at i3
      rw [← unV_no (fun h => hp h.1)]
      clear hp hn
      go_enter Tryd.func32, Tryd.ntmps32
      go_wp2_with (first | (go_at_call 15; (with_reducible refine (i2 _).mono ?_); rintro e w' ⟨rfl, hw⟩; obtain rfl := hw.symm) | (go_at_call 44; (with_reducible refine (i3 _).mono ?_); rintro e w' ⟨rfl, hw⟩; obtain rfl := hw.symm))
      go_ret
      exact ⟨rfl, rfl⟩
  · rw [decide_eq_false hn] at i2
    rw [← unV_no (fun h => hn h.2)]
    clear hn
    go_enter Tryd.func32, Tryd.ntmps32
    go_wp2_with (go_at_call 15; (with_reducible refine (i2 _).mono ?_); rintro e w' ⟨rfl, hw⟩; obtain rfl := hw.symm)
    go_ret
    exact ⟨rfl, rfl⟩

end Go.Proofs.YtabdondefoldaaaDoor
