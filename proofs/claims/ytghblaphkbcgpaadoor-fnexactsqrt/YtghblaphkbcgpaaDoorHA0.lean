/- Sums and differences with a number whose lost bits are kept as one. -/
import Derived.Test.YtghblaphkbcgpaaDoorHJ0
import Derived.Test.YtghblaphkbcgpaaDoorJ1
import Derived.RegionTactic
import Derived.Deep.RegionWith
import Derived.Laws.Externs
namespace Go.Proofs.YtghblaphkbcgpaaDoor

/-- An even number and one that is jammed: the sum, jammed. -/
theorem jam_add {X Y r C : Nat} (hX : X % 2 = 0) (hr : r < C) : jam ((X * C + (Y * C + r)) / C) ((X * C + (Y * C + r)) % C) = X + jam Y r := by
  have hC : 0 < C := by omega
  have e : X * C + (Y * C + r) = r + C * (X + Y) := by rw [Nat.mul_add, Nat.mul_comm C X, Nat.mul_comm C Y]; omega
  rw [e, Nat.add_mul_div_left _ _ hC, Nat.add_mul_mod_self_left, Nat.div_eq_of_lt hr, Nat.mod_eq_of_lt hr]
  unfold jam
  split <;> omega

/-- An even number less one that is jammed: the difference, jammed. -/
theorem jam_sub {X Y r C : Nat} (hX : X % 2 = 0) (hr : r < C) (hle : Y * C + r ≤ X * C) : jam ((X * C - (Y * C + r)) / C) ((X * C - (Y * C + r)) % C) = X - jam Y r := by
  have hC : 0 < C := by omega
  by_cases h0 : r = 0
  · subst h0
    rw [Nat.add_zero, ← Nat.sub_mul, Nat.mul_div_cancel _ hC, Nat.mul_mod_left]
    simp [jam]
  · have hlt : Y < X := by
      rcases Nat.lt_or_ge Y X with h | h
      · exact h
      · have := Nat.mul_le_mul_right C h
        omega
    obtain ⟨d, rfl⟩ : ∃ d, X = Y + 1 + d := ⟨X - (Y + 1), by omega⟩
    have e : (Y + 1 + d) * C - (Y * C + r) = (C - r) + C * d := by
      rw [Nat.add_mul, Nat.add_mul, Nat.one_mul, Nat.mul_comm d C]
      omega
    have hl : C - r < C := by omega
    rw [e, Nat.add_mul_div_left _ _ hC, Nat.add_mul_mod_self_left, Nat.div_eq_of_lt hl, Nat.mod_eq_of_lt hl]
    unfold jam
    rw [if_neg (by omega), if_neg h0]
    omega
end Go.Proofs.YtghblaphkbcgpaaDoor

/- A wide number sunk: what falls out is kept as its last bit. -/
namespace Go.Proofs.YtghblaphkbcgpaaDoor
open Go.RowKit

theorem jam_zero_iff {Q r r' : Nat} (h : r = 0 ↔ r' = 0) : jam Q r = jam Q r' := by
  unfold jam
  by_cases h0 : r = 0
  · rw [if_pos h0, if_pos (h.1 h0)]
  · rw [if_neg h0, if_neg (fun h1 => h0 (h.2 h1))]

theorem jam_split (Q r : Nat) : jam Q r % 18446744073709551616 = jam (Q % 18446744073709551616) r ∧ jam Q r / 18446744073709551616 = Q / 18446744073709551616 := by
  unfold jam
  split <;> omega

theorem sink_num {M lo c : Nat} (_ : M < 18446744073709551616) (hlo : lo < 18446744073709551616) (hc : c < 64) :
    bits .or .u64 ((lo / 2 ^ c : Nat) : Int) ((M * 2 ^ (64 - c) % 18446744073709551616 : Nat) : Int) = (((M * 18446744073709551616 + lo) / 2 ^ c % 18446744073709551616 : Nat) : Int) ∧
    M / 2 ^ c = (M * 18446744073709551616 + lo) / 2 ^ c / 18446744073709551616 ∧ (lo * 2 ^ (64 - c) % 18446744073709551616 = 0 ↔ (M * 18446744073709551616 + lo) % 2 ^ c = 0) := by
  have e64 : (18446744073709551616 : Nat) = 2 ^ c * 2 ^ (64 - c) := by rw [← Nat.pow_add, show c + (64 - c) = 64 by omega]
  have p1 : 0 < 2 ^ c := Nat.two_pow_pos c
  have p2 : 0 < 2 ^ (64 - c) := Nat.two_pow_pos _
  have hl : lo / 2 ^ c < 2 ^ (64 - c) := by
    rw [Nat.div_lt_iff_lt_mul p1, Nat.mul_comm, ← e64]; exact hlo
  have hm1 : M * 2 ^ (64 - c) % 18446744073709551616 = 2 ^ (64 - c) * (M % 2 ^ c) := by
    rw [e64, Nat.mul_mod_mul_right, Nat.mul_comm]
  have hm2 : 2 ^ (64 - c) * (M % 2 ^ c) + 2 ^ (64 - c) ≤ 18446744073709551616 := by
    have : M % 2 ^ c + 1 ≤ 2 ^ c := Nat.mod_lt _ p1
    have := Nat.mul_le_mul_left (2 ^ (64 - c)) this
    rw [Nat.mul_add, Nat.mul_one, Nat.mul_comm (2 ^ (64 - c)) (2 ^ c), ← e64] at this
    exact this
  have hd : (M * 18446744073709551616 + lo) / 2 ^ c = M * 2 ^ (64 - c) + lo / 2 ^ c := by
    rw [e64, Nat.mul_comm (2 ^ c), ← Nat.mul_assoc, Nat.mul_comm _ (2 ^ c), Nat.mul_add_div p1]
  refine ⟨?_, ?_, ?_⟩
  · rw [hm1, u64_or_nat _ _ (by omega) (by omega), Nat.or_comm, ← Nat.two_pow_add_eq_or_of_lt hl, hd]
    have e := Nat.div_add_mod (M * 2 ^ (64 - c)) 18446744073709551616
    rw [hm1] at e
    generalize M * 2 ^ (64 - c) / 18446744073709551616 = q at e
    rw [← e, Nat.add_assoc, Nat.mul_add_mod, Nat.mod_eq_of_lt (show 2 ^ (64 - c) * (M % 2 ^ c) + lo / 2 ^ c < 18446744073709551616 by omega)]
  · rw [Nat.div_div_eq_div_mul, Nat.mul_comm (2 ^ c), ← Nat.div_div_eq_div_mul, Nat.mul_comm M, Nat.mul_add_div (by decide), Nat.div_eq_of_lt hlo, Nat.add_zero]
  · have h1 : lo * 2 ^ (64 - c) % 18446744073709551616 = lo % 2 ^ c * 2 ^ (64 - c) := by rw [e64, Nat.mul_mod_mul_right]
    have h2 : (M * 18446744073709551616 + lo) % 2 ^ c = lo % 2 ^ c := by
      rw [e64, Nat.mul_comm (2 ^ c), ← Nat.mul_assoc, Nat.mul_comm _ (2 ^ c), Nat.mul_add_mod]
    rw [h1, h2]
    constructor
    · intro h
      rcases Nat.mul_eq_zero.1 h with h | h
      · exact h
      · omega
    · intro h; rw [h, Nat.zero_mul]

theorem jam_lt {Q r P : Nat} (hP : P % 2 = 0) (h : Q < P) : jam Q r < P := by
  unfold jam
  split <;> omega

/-- The world behind a sinking: two blocks more, the number and the answer, and draws. -/
theorem wrap_mul (x s : Nat) : IntKind.u64.wrap ((x : Int) * 2 ^ s) = ((x * 2 ^ s % 18446744073709551616 : Nat) : Int) := by
  rw [show ((x : Int) * 2 ^ s) = ((x * 2 ^ s : Nat) : Int) by rw [Int.natCast_mul, Int.natCast_pow]; rfl, IntKind.wrap_u64]
  rfl

theorem div_cast (x s : Nat) : (x : Int) / 2 ^ s = ((x / 2 ^ s : Nat) : Int) := by rw [Int.natCast_ediv, Int.natCast_pow]; rfl

set_option maxRecDepth 100000 in
set_option maxHeartbeats 2000000 in
theorem sunk_low (K E : Int) (n : Bool) (M lo c : Nat) (w : World) (hM : M < 18446744073709551616) (hlo : lo < 18446744073709551616) (hc : c < 64) (hE0 : -100000 ≤ E) (hE1 : E ≤ 100000) :
    Calls Tryd.prog 42 #[.agg #[.int .i64 K, .bool n, .int .i64 E, .int .u64 (M : Int), .int .u64 (lo : Int)], .int .i64 (c : Int)] w fun e w' =>
      e = .returned (.agg #[.int .i64 K, .bool n, .int .i64 (E + c), .int .u64 (jam ((M * 18446744073709551616 + lo) / 2 ^ c) ((M * 18446744073709551616 + lo) % 2 ^ c) / 18446744073709551616 : Nat), .int .u64 (jam ((M * 18446744073709551616 + lo) / 2 ^ c) ((M * 18446744073709551616 + lo) % 2 ^ c) % 18446744073709551616 : Nat)]) ∧ Below w.heap.size w w' := by
  obtain ⟨q1, q2, q3⟩ := sink_num hM hlo hc
  have hj := fun w => jam_any ((M * 18446744073709551616 + lo) / 2 ^ c % 18446744073709551616) (lo * 2 ^ (64 - c) % 18446744073709551616) (Nat.mod_lt _ (by decide)) w
  rw [(jam_split _ _).1, (jam_split _ _).2, ← q2, ← jam_zero_iff q3]
  have w1 := wrap_mul lo (64 - c)
  have w2 := wrap_mul M (64 - c)
  have w3 := div_cast lo c
  have w5 := div_cast M c
  have w4 := wrap_small (64 - (c : Int)) (by omega) (by omega)
  have w6 := wrap_small (E + (c : Int)) (by omega) (by omega)
  have z0 : bits .or .u64 0 ((lo * 2 ^ (64 - c) % 18446744073709551616 : Nat) : Int) = ((lo * 2 ^ (64 - c) % 18446744073709551616 : Nat) : Int) := by
    refine (u64_or_nat 0 _ (by decide) (Nat.mod_lt _ (by decide))).trans ?_
    rw [Nat.zero_or]
  generalize jam ((M * 18446744073709551616 + lo) / 2 ^ c % 18446744073709551616) (lo * 2 ^ (64 - c) % 18446744073709551616) = J at *
  generalize (M * 18446744073709551616 + lo) / 2 ^ c % 18446744073709551616 = X at *
  generalize lo * 2 ^ (64 - c) % 18446744073709551616 = L at *
  generalize M * 2 ^ (64 - c) % 18446744073709551616 = Y at *
  generalize lo / 2 ^ c = l1 at *
  generalize M / 2 ^ c = M1 at *
  clear q2 q3
  go_enter Tryd.func42, Tryd.ntmps42
  go_wp2
  go_region_with (go_at_call 44; refine (hj _).mono ?_; rintro e w' ⟨rfl, rfl⟩)
  all_goals
    go_wp2
    refine bodyPost_ret (v := .agg #[.int .i64 K, .bool n, .int .i64 (E + c), .int .u64 (M1 : Int), .int .u64 (J : Int)]) (by simp [results, Tryd.results42, go_sem]) rfl ⟨rfl, ?_⟩
    first | exact below_two _ _ | exact (below_two _ _).drew

theorem sink_high {M lo d : Nat} (_ : M < 18446744073709551616) (hlo : lo < 18446744073709551616) (hd : d < 64) :
    (M * 18446744073709551616 + lo) / 2 ^ (64 + d) = M / 2 ^ d ∧ (M * 18446744073709551616 + lo) % 2 ^ (64 + d) = M % 2 ^ d * 18446744073709551616 + lo ∧ (M * 2 ^ (64 - d) % 18446744073709551616 = 0 ↔ M % 2 ^ d = 0) := by
  have e64 : (18446744073709551616 : Nat) = 2 ^ d * 2 ^ (64 - d) := by rw [← Nat.pow_add, show d + (64 - d) = 64 by omega]
  have p1 : 0 < 2 ^ d := Nat.two_pow_pos d
  have p2 : 0 < 2 ^ (64 - d) := Nat.two_pow_pos _
  have e : (2 : Nat) ^ (64 + d) = 18446744073709551616 * 2 ^ d := by rw [Nat.pow_add]
  refine ⟨?_, ?_, ?_⟩
  · rw [e, ← Nat.div_div_eq_div_mul, Nat.mul_comm M, Nat.mul_add_div (by decide), Nat.div_eq_of_lt hlo, Nat.add_zero]
  · rw [e, Nat.mod_mul, Nat.mul_comm M, Nat.mul_add_mod, Nat.mod_eq_of_lt hlo, Nat.mul_add_div (by decide), Nat.div_eq_of_lt hlo, Nat.add_zero]
    omega
  · rw [e64, Nat.mul_mod_mul_right]
    constructor
    · intro h
      rcases Nat.mul_eq_zero.1 h with h | h
      · exact h
      · omega
    · intro h; rw [h, Nat.zero_mul]

set_option maxRecDepth 100000 in
set_option maxHeartbeats 2000000 in
theorem sunk_far (K E : Int) (n : Bool) (M lo d b : Nat) (w : World) (hM : M < 18446744073709551616) (hlo : lo < 18446744073709551616) (hd : d < 64) (hb : b = 64 + d ∨ (d = 63 ∧ 127 < b)) (hb2 : b ≤ 100000) (hE0 : -100000 ≤ E) (hE1 : E ≤ 100000) :
    Calls Tryd.prog 42 #[.agg #[.int .i64 K, .bool n, .int .i64 E, .int .u64 (M : Int), .int .u64 (lo : Int)], .int .i64 (b : Int)] w fun e w' =>
      e = .returned (.agg #[.int .i64 K, .bool n, .int .i64 (E + b), .int .u64 0, .int .u64 (jam (M / 2 ^ d) (M % 2 ^ d * 18446744073709551616 + lo) : Nat)]) ∧ Below w.heap.size w w' := by
  obtain ⟨_, _, q3⟩ := sink_high hM hlo hd
  have hq : M / 2 ^ d < 18446744073709551616 := Nat.lt_of_le_of_lt (Nat.div_le_self _ _) hM
  have hj := fun w => jam_any (M / 2 ^ d) (lo ||| M * 2 ^ (64 - d) % 18446744073709551616) hq w
  have hz : (lo ||| M * 2 ^ (64 - d) % 18446744073709551616) = 0 ↔ M % 2 ^ d * 18446744073709551616 + lo = 0 := by
    rw [Nat.or_eq_zero_iff, q3]
    omega
  rw [← jam_zero_iff hz]
  have w1 := wrap_mul M (64 - d)
  have w2 : IntKind.u64.wrap ((0 : Int) * 2 ^ (64 - d)) = 0 := by rw [Int.zero_mul]; rfl
  have wz : IntKind.u64.wrap 0 = 0 := rfl
  have w3 := div_cast M d
  have w5 : (0 : Int) / 2 ^ d = 0 := Int.zero_ediv _
  have w4 := wrap_small (64 - (d : Int)) (by omega) (by omega)
  have w6 := wrap_small (E + (b : Int)) (by omega) (by omega)
  have w7 := wrap_small (64 + (d : Int) - 64) (by omega) (by omega)
  have w8 : (64 : Int) + d - 64 = d := by omega
  have z0 : bits .or .u64 ((lo : Nat) : Int) ((M * 2 ^ (64 - d) % 18446744073709551616 : Nat) : Int) = ((lo ||| M * 2 ^ (64 - d) % 18446744073709551616 : Nat) : Int) := u64_or_nat _ _ hlo (Nat.mod_lt _ (by decide))
  have z1 : bits .or .u64 ((M / 2 ^ d : Nat) : Int) 0 = ((M / 2 ^ d : Nat) : Int) := by
    refine (u64_or_nat _ 0 hq (by decide)).trans ?_
    rw [Nat.or_zero]
  have hmn : (if (127 : Int) < b then 127 else (b : Int)) = 64 + (d : Int) := by
    rcases hb with hb | hb
    · rw [if_neg (by omega)]; omega
    · rw [if_pos (by omega)]; omega
  generalize jam (M / 2 ^ d) (lo ||| M * 2 ^ (64 - d) % 18446744073709551616) = J at *
  generalize (lo ||| M * 2 ^ (64 - d) % 18446744073709551616) = L at *
  generalize M * 2 ^ (64 - d) % 18446744073709551616 = Y at *
  generalize M / 2 ^ d = M1 at *
  clear q3 hz hb hq
  go_enter Tryd.func42, Tryd.ntmps42
  go_wp2
  go_region
  all_goals
    go_wp2
    go_region_with (go_at_call 44; with_reducible refine (hj _).mono ?_; rintro e w' ⟨rfl, rfl⟩)
    all_goals
      go_wp2
      refine bodyPost_ret (v := .agg #[.int .i64 K, .bool n, .int .i64 (E + b), .int .u64 0, .int .u64 (J : Int)]) (by simp [results, Tryd.results42, go_sem]) rfl ⟨rfl, ?_⟩
      first | exact below_two _ _ | exact (below_two _ _).drew | exact (below_two _ _).drew.drew
end Go.Proofs.YtghblaphkbcgpaaDoor

/- A wide number sunk by any count; sums and differences of two words. -/
namespace Go.Proofs.YtghblaphkbcgpaaDoor
open Go.RowKit

theorem sunk_any (K E : Int) (n : Bool) (N b : Nat) (w : World) (hN : N < 340282366920938463463374607431768211456) (hNb : b ≤ 127 ∨ N < 170141183460469231731687303715884105728) (hb2 : b ≤ 100000) (hE0 : -100000 ≤ E) (hE1 : E ≤ 100000) :
    Calls Tryd.prog 42 #[.agg #[.int .i64 K, .bool n, .int .i64 E, .int .u64 (N / 18446744073709551616 : Nat), .int .u64 (N % 18446744073709551616 : Nat)], .int .i64 (b : Int)] w fun e w' =>
      e = .returned (.agg #[.int .i64 K, .bool n, .int .i64 (E + b), .int .u64 (jam (N / 2 ^ b) (N % 2 ^ b) / 18446744073709551616 : Nat), .int .u64 (jam (N / 2 ^ b) (N % 2 ^ b) % 18446744073709551616 : Nat)]) ∧ Below w.heap.size w w' := by
  have hM : N / 18446744073709551616 < 18446744073709551616 := by omega
  have hlo : N % 18446744073709551616 < 18446744073709551616 := Nat.mod_lt _ (by decide)
  have hs : N / 18446744073709551616 * 18446744073709551616 + N % 18446744073709551616 = N := Nat.div_add_mod' N _
  by_cases h1 : b < 64
  · have := sunk_low K E n _ _ b w hM hlo h1 hE0 hE1
    rw [hs] at this
    exact this
  · by_cases h2 : b ≤ 127
    · obtain ⟨d, rfl⟩ : ∃ d, b = 64 + d := ⟨b - 64, by omega⟩
      have := sunk_far K E n _ _ d (64 + d) w hM hlo (by omega) (Or.inl rfl) hb2 hE0 hE1
      obtain ⟨q1, q2, _⟩ := sink_high hM hlo (show d < 64 by omega)
      rw [hs] at q1 q2
      rw [q1, q2]
      have hlt : jam (N / 18446744073709551616 / 2 ^ d) (N / 18446744073709551616 % 2 ^ d * 18446744073709551616 + N % 18446744073709551616) < 18446744073709551616 := jam_lt (by decide) (Nat.lt_of_le_of_lt (Nat.div_le_self _ _) hM)
      rw [Nat.div_eq_of_lt hlt, Nat.mod_eq_of_lt hlt]
      exact this
    · have hlt : N < 170141183460469231731687303715884105728 := by omega
      have := sunk_far K E n _ _ 63 b w hM hlo (by omega) (Or.inr ⟨rfl, by omega⟩) hb2 hE0 hE1
      have p1 : (2 : Nat) ^ 127 ≤ 2 ^ b := Nat.pow_le_pow_right (by decide) (by omega)
      have hlt2 : N < 2 ^ b := Nat.lt_of_lt_of_le hlt p1
      rw [Nat.div_eq_of_lt hlt2, Nat.mod_eq_of_lt hlt2]
      have m1 : N / 18446744073709551616 / 2 ^ 63 = 0 := Nat.div_eq_of_lt (by omega)
      have m2 : N / 18446744073709551616 % 2 ^ 63 = N / 18446744073709551616 := Nat.mod_eq_of_lt (by omega)
      rw [m1, m2, hs] at this
      have hl3 : jam 0 N < 18446744073709551616 := jam_lt (by decide) (by decide)
      rw [Nat.div_eq_of_lt hl3, Nat.mod_eq_of_lt hl3]
      exact this

end Go.Proofs.YtghblaphkbcgpaaDoor
