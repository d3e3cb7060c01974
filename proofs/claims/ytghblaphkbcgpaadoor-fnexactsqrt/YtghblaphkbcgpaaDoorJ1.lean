/- The program's wide numbers: lifted, jammed, narrow. -/
import Derived.Test.YtghblaphkbcgpaaDoorHJ0
import Derived.Test.YtghblaphkbcgpaaDoorQ3
import Derived.RegionTactic
namespace Go.Proofs.YtghblaphkbcgpaaDoor
open Go.RowKit

theorem or_one (Q : Nat) (h : Q < 18446744073709551616) : bits .or .u64 (Q : Int) 1 = ((Q / 2 * 2 + 1 : Nat) : Int) := by
  have := u64_or_nat Q 1 h (by decide)
  refine this.trans ?_
  congr 1
  apply Nat.eq_of_testBit_eq
  intro i
  rw [Nat.testBit_or]
  cases i with
  | zero => simp
  | succ i =>
    rw [Nat.testBit_succ, Nat.testBit_succ, Nat.testBit_succ, show (Q / 2 * 2 + 1) / 2 = Q / 2 by omega]
    simp

set_option maxRecDepth 100000 in
theorem jam_any (Q r : Nat) (hQ : Q < 18446744073709551616) (w : World) :
    Calls Tryd.prog 44 #[.int .u64 (Q : Int), .int .u64 (r : Int)] w fun e w' => e = .returned (.int .u64 (jam Q r : Nat)) ∧ w' = w := by
  have ho := or_one Q hQ
  unfold jam
  by_cases h : r = 0
  · subst h
    rw [if_pos rfl]
    go_enter Tryd.func44, Tryd.ntmps44
    go_wp2
    go_ret
    exact ⟨rfl, rfl⟩
  · rw [if_neg h]
    have hb : ((r : Int) != 0) = true := by simp; omega
    generalize Q / 2 * 2 + 1 = z at *
    go_enter Tryd.func44, Tryd.ntmps44
    go_wp2
    go_ret
    exact ⟨rfl, rfl⟩

set_option maxRecDepth 100000 in
theorem lz_any (Q : Nat) (h0 : 0 < Q) (hQ : Q < 18446744073709551616) (w : World) :
    Calls Tryd.prog 52 #[.int .u64 (Q : Int)] w fun e w' => e = .returned (.int .i64 (64 - (blen Q : Int))) ∧ w' = w := by
  have hl := fun w => len_at Q h0 hQ w
  have hb : (blen Q : Int) ≤ 64 := by have := blen_le (N := Q) (L := 64) hQ; omega
  go_enter Tryd.func52, Tryd.ntmps52
  go_wp2_with (go_at_call 56; refine (hl _).mono ?_; rintro e w' ⟨rfl, rfl⟩)
  go_ret
  exact ⟨rfl, rfl⟩

theorem lift_num {M lo s : Nat} (hM : M * 2 ^ s < 18446744073709551616) (hlo : lo < 18446744073709551616) (hs : s ≤ 63) :
    bits .or .u64 ((M * 2 ^ s : Nat) : Int) ((lo / 2 ^ (64 - s) : Nat) : Int) = (((M * 18446744073709551616 + lo) * 2 ^ s / 18446744073709551616 : Nat) : Int) ∧ lo * 2 ^ s % 18446744073709551616 = (M * 18446744073709551616 + lo) * 2 ^ s % 18446744073709551616 ∧ lo / 2 ^ (64 - s) < 2 ^ s := by
  have e64 : (18446744073709551616 : Nat) = 2 ^ s * 2 ^ (64 - s) := by rw [← Nat.pow_add, show s + (64 - s) = 64 by omega]
  have hlt : lo / 2 ^ (64 - s) < 2 ^ s := by
    rw [Nat.div_lt_iff_lt_mul (Nat.pow_pos (by decide)), ← e64]
    exact hlo
  have e1 : (M * 18446744073709551616 + lo) * 2 ^ s = M * 2 ^ s * 18446744073709551616 + lo * 2 ^ s := by
    rw [Nat.add_mul, Nat.mul_right_comm]
  have e2 : lo * 2 ^ s / 18446744073709551616 = lo / 2 ^ (64 - s) := by
    rw [e64, Nat.mul_comm lo, Nat.mul_div_mul_left _ _ (Nat.pow_pos (by decide))]
  have hs2 : (2 : Nat) ^ s ≤ 2 ^ 63 := Nat.pow_le_pow_right (by decide) hs
  refine ⟨?_, ?_, hlt⟩
  · rw [u64_or_nat _ _ hM (by omega), e1, Nat.add_comm, Nat.add_mul_div_right _ _ (by decide), e2, Nat.mul_comm M, ← Nat.two_pow_add_eq_or_of_lt hlt, Nat.add_comm]
  · rw [e1, Nat.add_comm, Nat.add_mul_mod_self_right]

theorem lift_room {M : Nat} (h0 : 0 < M) (hM : M < 18446744073709551616) : M * 2 ^ (64 - blen M) < 18446744073709551616 ∧ 9223372036854775808 ≤ M * 2 ^ (64 - blen M) := by
  obtain ⟨b0, b1, b2⟩ := blen_pos h0
  have hb := blen_le (N := M) (L := 64) hM
  have hp : 0 < 2 ^ (64 - blen M) := Nat.pow_pos (by decide)
  have h1 := Nat.mul_lt_mul_of_pos_right b2 hp
  have h2 := Nat.mul_le_mul_right (2 ^ (64 - blen M)) b1
  rw [← Nat.pow_add, show blen M + (64 - blen M) = 64 by omega] at h1
  rw [← Nat.pow_add, show blen M - 1 + (64 - blen M) = 63 by omega] at h2
  exact ⟨h1, h2⟩

/-- The world behind a lifting: two blocks more, and a draw. -/
def liftW (w : World) (K E : Int) (n : Bool) (M lo : Int) : World := ((w.alloc (Obj.cells #[.int .i64 K, .bool n, .int .i64 E, .int .u64 M, .int .u64 lo] 63)).alloc (Obj.cells #[.int .i64 K, .bool n, .int .i64 E, .int .u64 M, .int .u64 lo] 63)).drew

theorem below_sc {B : Nat} {w W : World} {a : Addr} (h : Below B w W) (ha : B ≤ a.block) (u : Value) : Below B w (W.setCell a u) := h.setCell ha u

set_option maxRecDepth 100000 in
set_option maxHeartbeats 1000000 in
theorem lifted_one (K E : Int) (n : Bool) (M lo : Nat) (w : World) (hM0 : 0 < M) (hM : M < 18446744073709551616) (hlo : lo < 18446744073709551616) (hE0 : -100000 ≤ E) (hE1 : E ≤ 100000) :
    Calls Tryd.prog 41 #[.agg #[.int .i64 K, .bool n, .int .i64 E, .int .u64 (M : Int), .int .u64 (lo : Int)]] w fun e w' => e = .returned (.agg #[.int .i64 K, .bool n, .int .i64 (E - ((64 - blen M : Nat) : Int)), .int .u64 ((M * 18446744073709551616 + lo) * 2 ^ (64 - blen M) / 18446744073709551616 : Nat), .int .u64 ((M * 18446744073709551616 + lo) * 2 ^ (64 - blen M) % 18446744073709551616 : Nat)]) ∧ w' = liftW w K (E - ((64 - blen M : Nat) : Int)) n (((M * 18446744073709551616 + lo) * 2 ^ (64 - blen M) / 18446744073709551616 : Nat)) (((M * 18446744073709551616 + lo) * 2 ^ (64 - blen M) % 18446744073709551616 : Nat)) := by
  have hb : blen M ≤ 64 := blen_le (N := M) (L := 64) hM
  have hb0 := (blen_pos hM0).1
  have hz : ∀ w, Calls Tryd.prog 52 #[.int .u64 (M : Int)] w fun e w' => e = .returned (.int .i64 ((64 - blen M : Nat) : Int)) ∧ w' = w := fun w => by
    have := lz_any M hM0 hM w
    rwa [show (64 - (blen M : Int)) = ((64 - blen M : Nat) : Int) by omega] at this
  have hmb : ((M : Int) == 0) = false := by simp; omega
  obtain ⟨r0, _⟩ := lift_room hM0 hM
  generalize hs : 64 - blen M = s at *
  have hs1 : s ≤ 63 := by omega
  obtain ⟨q1, q2, q3⟩ := lift_num r0 hlo hs1
  have w1 : IntKind.u64.wrap ((M : Int) * 2 ^ s) = ((M * 2 ^ s : Nat) : Int) := by
    rw [show ((M : Int) * 2 ^ s) = ((M * 2 ^ s : Nat) : Int) by rw [Int.natCast_mul, Int.natCast_pow]; rfl, IntKind.wrap_u64]
    omega
  have w2 : (lo : Int) / 2 ^ (64 - s) = ((lo / 2 ^ (64 - s) : Nat) : Int) := by rw [Int.natCast_ediv, Int.natCast_pow]; rfl
  have w3 : IntKind.u64.wrap ((lo : Int) * 2 ^ s) = ((lo * 2 ^ s % 18446744073709551616 : Nat) : Int) := by
    rw [show ((lo : Int) * 2 ^ s) = ((lo * 2 ^ s : Nat) : Int) by rw [Int.natCast_mul, Int.natCast_pow]; rfl, IntKind.wrap_u64]
    rfl
  rw [q2] at w3
  generalize (M * 18446744073709551616 + lo) * 2 ^ s / 18446744073709551616 = X at *
  generalize (M * 18446744073709551616 + lo) * 2 ^ s % 18446744073709551616 = Y at *
  generalize M * 2 ^ s = M1 at *
  generalize lo / 2 ^ (64 - s) = l1 at *
  have w4 := wrap_small (64 - (s : Int)) (by omega) (by omega)
  clear hs q2 q3 r0 hb hb0
  go_enter Tryd.func41, Tryd.ntmps41
  go_wp2_with (go_at_call 52; refine (hz _).mono ?_; rintro e w' ⟨rfl, hw⟩; obtain rfl := hw.symm)
  go_region
  all_goals
    go_wp2
    refine bodyPost_ret (v := .agg #[.int .i64 K, .bool n, .int .i64 (E - (s : Int)), .int .u64 (X : Int), .int .u64 (Y : Int)]) (by simp [results, Tryd.results41, go_sem]) rfl ⟨rfl, rfl⟩

set_option maxRecDepth 100000 in
set_option maxHeartbeats 1000000 in
theorem lifted_two (K E : Int) (n : Bool) (lo : Nat) (w : World) (hM0 : 0 < lo) (hM : lo < 18446744073709551616) (hE0 : -100000 ≤ E) (hE1 : E ≤ 100000) :
    Calls Tryd.prog 41 #[.agg #[.int .i64 K, .bool n, .int .i64 E, .int .u64 0, .int .u64 (lo : Int)]] w fun e w' => e = .returned (.agg #[.int .i64 K, .bool n, .int .i64 (E - 64 - ((64 - blen lo : Nat) : Int)), .int .u64 (lo * 2 ^ (64 - blen lo) : Nat), .int .u64 0]) ∧ w' = liftW w K (E - 64 - ((64 - blen lo : Nat) : Int)) n ((lo * 2 ^ (64 - blen lo) : Nat)) (0) := by
  have hb : blen lo ≤ 64 := blen_le (N := lo) (L := 64) hM
  have hb0 := (blen_pos hM0).1
  have hz : ∀ w, Calls Tryd.prog 52 #[.int .u64 (lo : Int)] w fun e w' => e = .returned (.int .i64 ((64 - blen lo : Nat) : Int)) ∧ w' = w := fun w => by
    have := lz_any lo hM0 hM w
    rwa [show (64 - (blen lo : Int)) = ((64 - blen lo : Nat) : Int) by omega] at this
  obtain ⟨r0, _⟩ := lift_room hM0 hM
  generalize hs : 64 - blen lo = s at *
  have hs1 : s ≤ 63 := by omega
  obtain ⟨q1, _, _⟩ := lift_num (lo := 0) r0 (by decide) hs1
  have w1 : IntKind.u64.wrap ((lo : Int) * 2 ^ s) = ((lo * 2 ^ s : Nat) : Int) := by
    rw [show ((lo : Int) * 2 ^ s) = ((lo * 2 ^ s : Nat) : Int) by rw [Int.natCast_mul, Int.natCast_pow]; rfl, IntKind.wrap_u64]
    omega
  have q1' : bits .or .u64 ((lo * 2 ^ s : Nat) : Int) 0 = ((lo * 2 ^ s : Nat) : Int) := by
    refine (u64_or_nat (lo * 2 ^ s) 0 r0 (by decide)).trans ?_
    rw [Nat.or_zero]
  generalize lo * 2 ^ s = X at *
  have w4 := wrap_small (64 - (s : Int)) (by omega) (by omega)
  have w5 : (0 : Int) / 2 ^ (64 - s) = 0 := Int.zero_ediv _
  have w6 : IntKind.u64.wrap ((0 : Int) * 2 ^ s) = 0 := by rw [Int.zero_mul]; rfl
  clear hs q1 r0 hb hb0
  go_enter Tryd.func41, Tryd.ntmps41
  go_wp2_with (go_at_call 52; refine (hz _).mono ?_; rintro e w' ⟨rfl, hw⟩; obtain rfl := hw.symm)
  go_region
  all_goals
    go_wp2
    refine bodyPost_ret (v := .agg #[.int .i64 K, .bool n, .int .i64 (E - 64 - (s : Int)), .int .u64 (X : Int), .int .u64 0]) (by simp [results, Tryd.results41, go_sem]) rfl ⟨rfl, rfl⟩

/-- A wide number lifted: its highest bit set. -/
theorem lifted_any (K E : Int) (n : Bool) (N : Nat) (w : World) (h0 : 0 < N) (h1 : N < 340282366920938463463374607431768211456) (hE0 : -100000 ≤ E) (hE1 : E ≤ 100000) :
    Calls Tryd.prog 41 #[.agg #[.int .i64 K, .bool n, .int .i64 E, .int .u64 (N / 18446744073709551616 : Nat), .int .u64 (N % 18446744073709551616 : Nat)]] w fun e w' => e = .returned (.agg #[.int .i64 K, .bool n, .int .i64 (E - ((128 - blen N : Nat) : Int)), .int .u64 (N * 2 ^ (128 - blen N) / 18446744073709551616 : Nat), .int .u64 (N * 2 ^ (128 - blen N) % 18446744073709551616 : Nat)]) ∧ w' = liftW w K (E - ((128 - blen N : Nat) : Int)) n ((N * 2 ^ (128 - blen N) / 18446744073709551616 : Nat)) ((N * 2 ^ (128 - blen N) % 18446744073709551616 : Nat)) := by
  by_cases hM : N / 18446744073709551616 = 0
  · have hlt : N < 18446744073709551616 := by omega
    have hm : N % 18446744073709551616 = N := Nat.mod_eq_of_lt hlt
    have hb := blen_le (N := N) (L := 64) hlt
    have := lifted_two K E n N w h0 hlt hE0 hE1
    rw [hM, hm]
    have e1 : N * 2 ^ (128 - blen N) = N * 2 ^ (64 - blen N) * 18446744073709551616 := by
      rw [show (18446744073709551616 : Nat) = 2 ^ 64 by decide, Nat.mul_assoc, ← Nat.pow_add]
      congr 2
      omega
    rw [e1, Nat.mul_div_cancel _ (by decide), Nat.mul_mod_left, show E - ((128 - blen N : Nat) : Int) = E - 64 - ((64 - blen N : Nat) : Int) by omega]
    exact this
  · have hpos : 0 < N / 2 ^ 64 := by show 0 < N / 18446744073709551616; omega
    have hb := blen_div (c := 64) hpos
    have := lifted_one K E n (N / 18446744073709551616) (N % 18446744073709551616) w (by omega) (by omega) (by omega) hE0 hE1
    rw [show N / 18446744073709551616 * 18446744073709551616 + N % 18446744073709551616 = N by omega, show 64 - blen (N / 18446744073709551616) = 128 - blen N by rw [hb]; show 64 - blen (N / 2 ^ 64) = _; omega] at this
    exact this

end Go.Proofs.YtghblaphkbcgpaaDoor
