/- A wide number sunk: what falls out is kept as its last bit. -/
import Derived.Test.YtfodpnbhcdkmnaaDoorJ1
import Derived.Test.YtfodpnbhcdkmnaaDoorA0
import Derived.RegionTactic
import Derived.Deep.RegionWith
import Derived.Laws.Externs
namespace Go.Proofs.YtfodpnbhcdkmnaaDoor
open Go.RowKit

theorem jam_zero_iff {Q r r' : Nat} (h : r = 0 ↔ r' = 0) : jam Q r = jam Q r' := by
  unfold jam
  by_cases h0 : r = 0
  · rw [if_pos h0, if_pos (h.1 h0)]
  · rw [if_neg h0, if_neg (fun h1 => h0 (h.2 h1))]

theorem jam_split (Q r : Nat) : jam Q r % 18446744073709551616 = jam (Q % 18446744073709551616) r ∧ jam Q r / 18446744073709551616 = Q / 18446744073709551616 := by
  unfold jam
  split <;> omega

theorem sink_num {M lo c : Nat} (_ : M < 18446744073709551616) (hlo : lo < 18446744073709551616) (hc : c < 64) :
    bits .or .u64 ((lo / 2 ^ c : Nat) : Int) ((M * 2 ^ (64 - c) % 18446744073709551616 : Nat) : Int) = (((M * 18446744073709551616 + lo) / 2 ^ c % 18446744073709551616 : Nat) : Int) ∧
    M / 2 ^ c = (M * 18446744073709551616 + lo) / 2 ^ c / 18446744073709551616 ∧ (lo * 2 ^ (64 - c) % 18446744073709551616 = 0 ↔ (M * 18446744073709551616 + lo) % 2 ^ c = 0) := by
  have e64 : (18446744073709551616 : Nat) = 2 ^ c * 2 ^ (64 - c) := by rw [← Nat.pow_add, show c + (64 - c) = 64 by omega]
  have p1 : 0 < 2 ^ c := Nat.two_pow_pos c
  have p2 : 0 < 2 ^ (64 - c) := Nat.two_pow_pos _
  have hl : lo / 2 ^ c < 2 ^ (64 - c) := by
    rw [Nat.div_lt_iff_lt_mul p1, Nat.mul_comm, ← e64]; exact hlo
  have hm1 : M * 2 ^ (64 - c) % 18446744073709551616 = 2 ^ (64 - c) * (M % 2 ^ c) := by
    rw [e64, Nat.mul_mod_mul_right, Nat.mul_comm]
  have hm2 : 2 ^ (64 - c) * (M % 2 ^ c) + 2 ^ (64 - c) ≤ 18446744073709551616 := by
    have : M % 2 ^ c + 1 ≤ 2 ^ c := Nat.mod_lt _ p1
    have := Nat.mul_le_mul_left (2 ^ (64 - c)) this
    rw [Nat.mul_add, Nat.mul_one, Nat.mul_comm (2 ^ (64 - c)) (2 ^ c), ← e64] at this
    exact this
  have hd : (M * 18446744073709551616 + lo) / 2 ^ c = M * 2 ^ (64 - c) + lo / 2 ^ c := by
    rw [e64, Nat.mul_comm (2 ^ c), ← Nat.mul_assoc, Nat.mul_comm _ (2 ^ c), Nat.mul_add_div p1]
  refine ⟨?_, ?_, ?_⟩
  · rw [hm1, u64_or_nat _ _ (by omega) (by omega), Nat.or_comm, ← Nat.two_pow_add_eq_or_of_lt hl, hd]
    have e := Nat.div_add_mod (M * 2 ^ (64 - c)) 18446744073709551616
    rw [hm1] at e
    generalize M * 2 ^ (64 - c) / 18446744073709551616 = q at e
    rw [← e, Nat.add_assoc, Nat.mul_add_mod, Nat.mod_eq_of_lt (show 2 ^ (64 - c) * (M % 2 ^ c) + lo / 2 ^ c < 18446744073709551616 by omega)]
  · rw [Nat.div_div_eq_div_mul, Nat.mul_comm (2 ^ c), ← Nat.div_div_eq_div_mul, Nat.mul_comm M, Nat.mul_add_div (by decide), Nat.div_eq_of_lt hlo, Nat.add_zero]
  · have h1 : lo * 2 ^ (64 - c) % 18446744073709551616 = lo % 2 ^ c * 2 ^ (64 - c) := by rw [e64, Nat.mul_mod_mul_right]
    have h2 : (M * 18446744073709551616 + lo) % 2 ^ c = lo % 2 ^ c := by
      rw [e64, Nat.mul_comm (2 ^ c), ← Nat.mul_assoc, Nat.mul_comm _ (2 ^ c), Nat.mul_add_mod]
    rw [h1, h2]
    constructor
    · intro h
      rcases Nat.mul_eq_zero.1 h with h | h
      · exact h
      · omega
    · intro h; rw [h, Nat.zero_mul]

theorem jam_lt {Q r P : Nat} (hP : P % 2 = 0) (h : Q < P) : jam Q r < P := by
  unfold jam
  split <;> omega

/-- The world behind a sinking: two blocks more, the number and the answer, and draws. -/
theorem wrap_mul (x s : Nat) : IntKind.u64.wrap ((x : Int) * 2 ^ s) = ((x * 2 ^ s % 18446744073709551616 : Nat) : Int) := by
  rw [show ((x : Int) * 2 ^ s) = ((x * 2 ^ s : Nat) : Int) by rw [Int.natCast_mul, Int.natCast_pow]; rfl, IntKind.wrap_u64]
  rfl

theorem div_cast (x s : Nat) : (x : Int) / 2 ^ s = ((x / 2 ^ s : Nat) : Int) := by rw [Int.natCast_ediv, Int.natCast_pow]; rfl

set_option maxHeartbeats 2000000 in
theorem sunk_low (K E : Int) (n : Bool) (M lo c : Nat) (w : World) (hM : M < 18446744073709551616) (hlo : lo < 18446744073709551616) (hc : c < 64) (hE0 : -100000 ≤ E) (hE1 : E ≤ 100000) :
    Calls Tryd.prog 79 #[.agg #[.int .i64 K, .bool n, .int .i64 E, .int .u64 (M : Int), .int .u64 (lo : Int)], .int .i64 (c : Int)] w fun e w' =>
      e = .returned (.agg #[.int .i64 K, .bool n, .int .i64 (E + c), .int .u64 (jam ((M * 18446744073709551616 + lo) / 2 ^ c) ((M * 18446744073709551616 + lo) % 2 ^ c) / 18446744073709551616 : Nat), .int .u64 (jam ((M * 18446744073709551616 + lo) / 2 ^ c) ((M * 18446744073709551616 + lo) % 2 ^ c) % 18446744073709551616 : Nat)]) ∧ Below w.heap.size w w' := by
  obtain ⟨q1, q2, q3⟩ := sink_num hM hlo hc
  have hj := fun w => jam_any ((M * 18446744073709551616 + lo) / 2 ^ c % 18446744073709551616) (lo * 2 ^ (64 - c) % 18446744073709551616) (Nat.mod_lt _ (by decide)) w
  rw [(jam_split _ _).1, (jam_split _ _).2, ← q2, ← jam_zero_iff q3]
  have w1 := wrap_mul lo (64 - c)
  have w2 := wrap_mul M (64 - c)
  have w3 := div_cast lo c
  have w5 := div_cast M c
  have w4 := wrap_small (64 - (c : Int)) (by omega) (by omega)
  have w6 := wrap_small (E + (c : Int)) (by omega) (by omega)
  have z0 : bits .or .u64 0 ((lo * 2 ^ (64 - c) % 18446744073709551616 : Nat) : Int) = ((lo * 2 ^ (64 - c) % 18446744073709551616 : Nat) : Int) := by
    refine (u64_or_nat 0 _ (by decide) (Nat.mod_lt _ (by decide))).trans ?_
    rw [Nat.zero_or]
  generalize jam ((M * 18446744073709551616 + lo) / 2 ^ c % 18446744073709551616) (lo * 2 ^ (64 - c) % 18446744073709551616) = J at *
  generalize (M * 18446744073709551616 + lo) / 2 ^ c % 18446744073709551616 = X at *
  generalize lo * 2 ^ (64 - c) % 18446744073709551616 = L at *
  generalize M * 2 ^ (64 - c) % 18446744073709551616 = Y at *
  generalize lo / 2 ^ c = l1 at *
  generalize M / 2 ^ c = M1 at *
  clear q2 q3
  go_enter Tryd.func79, Tryd.ntmps79
  go_wp2
  go_region_with (go_at_call 69; refine (hj _).mono ?_; rintro e w' ⟨rfl, rfl⟩)
  all_goals
    go_wp2
    refine bodyPost_ret (v := .agg #[.int .i64 K, .bool n, .int .i64 (E + c), .int .u64 (M1 : Int), .int .u64 (J : Int)]) (by simp [results, Tryd.results79, go_sem]) rfl ⟨rfl, ?_⟩
    first | exact below_two _ _ | exact (below_two _ _).drew

theorem sink_high {M lo d : Nat} (_ : M < 18446744073709551616) (hlo : lo < 18446744073709551616) (hd : d < 64) :
    (M * 18446744073709551616 + lo) / 2 ^ (64 + d) = M / 2 ^ d ∧ (M * 18446744073709551616 + lo) % 2 ^ (64 + d) = M % 2 ^ d * 18446744073709551616 + lo ∧ (M * 2 ^ (64 - d) % 18446744073709551616 = 0 ↔ M % 2 ^ d = 0) := by
  have e64 : (18446744073709551616 : Nat) = 2 ^ d * 2 ^ (64 - d) := by rw [← Nat.pow_add, show d + (64 - d) = 64 by omega]
  have p1 : 0 < 2 ^ d := Nat.two_pow_pos d
  have p2 : 0 < 2 ^ (64 - d) := Nat.two_pow_pos _
  have e : (2 : Nat) ^ (64 + d) = 18446744073709551616 * 2 ^ d := by rw [Nat.pow_add]
  refine ⟨?_, ?_, ?_⟩
  · rw [e, ← Nat.div_div_eq_div_mul, Nat.mul_comm M, Nat.mul_add_div (by decide), Nat.div_eq_of_lt hlo, Nat.add_zero]
  · rw [e, Nat.mod_mul, Nat.mul_comm M, Nat.mul_add_mod, Nat.mod_eq_of_lt hlo, Nat.mul_add_div (by decide), Nat.div_eq_of_lt hlo, Nat.add_zero]
    omega
  · rw [e64, Nat.mul_mod_mul_right]
    constructor
    · intro h
      rcases Nat.mul_eq_zero.1 h with h | h
      · exact h
      · omega
    · intro h; rw [h, Nat.zero_mul]

set_option maxHeartbeats 2000000 in
theorem sunk_far (K E : Int) (n : Bool) (M lo d b : Nat) (w : World) (hM : M < 18446744073709551616) (hlo : lo < 18446744073709551616) (hd : d < 64) (hb : b = 64 + d ∨ (d = 63 ∧ 127 < b)) (hb2 : b ≤ 100000) (hE0 : -100000 ≤ E) (hE1 : E ≤ 100000) :
    Calls Tryd.prog 79 #[.agg #[.int .i64 K, .bool n, .int .i64 E, .int .u64 (M : Int), .int .u64 (lo : Int)], .int .i64 (b : Int)] w fun e w' =>
      e = .returned (.agg #[.int .i64 K, .bool n, .int .i64 (E + b), .int .u64 0, .int .u64 (jam (M / 2 ^ d) (M % 2 ^ d * 18446744073709551616 + lo) : Nat)]) ∧ Below w.heap.size w w' := by
  obtain ⟨_, _, q3⟩ := sink_high hM hlo hd
  have hq : M / 2 ^ d < 18446744073709551616 := Nat.lt_of_le_of_lt (Nat.div_le_self _ _) hM
  have hj := fun w => jam_any (M / 2 ^ d) (lo ||| M * 2 ^ (64 - d) % 18446744073709551616) hq w
  have hz : (lo ||| M * 2 ^ (64 - d) % 18446744073709551616) = 0 ↔ M % 2 ^ d * 18446744073709551616 + lo = 0 := by
    rw [Nat.or_eq_zero_iff, q3]
    omega
  rw [← jam_zero_iff hz]
  have w1 := wrap_mul M (64 - d)
  have w2 : IntKind.u64.wrap ((0 : Int) * 2 ^ (64 - d)) = 0 := by rw [Int.zero_mul]; rfl
  have wz : IntKind.u64.wrap 0 = 0 := rfl
  have w3 := div_cast M d
  have w5 : (0 : Int) / 2 ^ d = 0 := Int.zero_ediv _
  have w4 := wrap_small (64 - (d : Int)) (by omega) (by omega)
  have w6 := wrap_small (E + (b : Int)) (by omega) (by omega)
  have w7 := wrap_small (64 + (d : Int) - 64) (by omega) (by omega)
  have w8 : (64 : Int) + d - 64 = d := by omega
  have z0 : bits .or .u64 ((lo : Nat) : Int) ((M * 2 ^ (64 - d) % 18446744073709551616 : Nat) : Int) = ((lo ||| M * 2 ^ (64 - d) % 18446744073709551616 : Nat) : Int) := u64_or_nat _ _ hlo (Nat.mod_lt _ (by decide))
  have z1 : bits .or .u64 ((M / 2 ^ d : Nat) : Int) 0 = ((M / 2 ^ d : Nat) : Int) := by
    refine (u64_or_nat _ 0 hq (by decide)).trans ?_
    rw [Nat.or_zero]
  have hmn : (if (127 : Int) < b then 127 else (b : Int)) = 64 + (d : Int) := by
    rcases hb with hb | hb
    · rw [if_neg (by omega)]; omega
    · rw [if_pos (by omega)]; omega
  generalize jam (M / 2 ^ d) (lo ||| M * 2 ^ (64 - d) % 18446744073709551616) = J at *
  generalize (lo ||| M * 2 ^ (64 - d) % 18446744073709551616) = L at *
  generalize M * 2 ^ (64 - d) % 18446744073709551616 = Y at *
  generalize M / 2 ^ d = M1 at *
  clear q3 hz hb hq
  go_enter Tryd.func79, Tryd.ntmps79
  go_wp2
  go_region
  all_goals
    go_wp2
    go_region_with (go_at_call 69; with_reducible refine (hj _).mono ?_; rintro e w' ⟨rfl, rfl⟩)
    all_goals
      go_wp2
      refine bodyPost_ret (v := .agg #[.int .i64 K, .bool n, .int .i64 (E + b), .int .u64 0, .int .u64 (J : Int)]) (by simp [results, Tryd.results79, go_sem]) rfl ⟨rfl, ?_⟩
      first | exact below_two _ _ | exact (below_two _ _).drew | exact (below_two _ _).drew.drew
end Go.Proofs.YtfodpnbhcdkmnaaDoor
