/- The library's product of two words in two words; the program's product of two numbers. -/
import Derived.Test.YtcpnmcfpnhokgaaDoorJ1
import Derived.Lib.Mul64
import Derived.Test.YtcpnmcfpnhokgaaDoorK1
namespace Go.Proofs.YtcpnmcfpnhokgaaDoor
open Go.RowKit

theorem mask32 (x : Nat) (h : x < 18446744073709551616) : bits .and .u64 (x : Int) 4294967295 = ((x % 4294967296 : Nat) : Int) := by
  refine (u64_and_nat x 4294967295 h (by decide)).trans ?_
  congr 1
  exact Nat.and_two_pow_sub_one_eq_mod x 32

theorem wrap_nat (x y : Nat) (h : x * y < 18446744073709551616) : IntKind.u64.wrap ((x : Int) * (y : Int)) = ((x * y : Nat) : Int) := by
  rw [← Int.natCast_mul, IntKind.wrap_u64]
  omega

set_option maxRecDepth 100000 in
set_option maxHeartbeats 1000000 in
theorem mul64_any (A B : Nat) (w : World) (hA : A < 18446744073709551616) (hB : B < 18446744073709551616) :
    Calls Tryd.prog 66 #[.int .u64 (A : Int), .int .u64 (B : Int)] w fun e w' => e = .returned (.tuple #[.int .u64 (A * B / 18446744073709551616 : Nat), .int .u64 (A * B % 18446744073709551616 : Nat)]) ∧ w' = w := by
  obtain ⟨l1, l2, l3, l4⟩ := Lib.mul64_hi A B hA hB
  have g1 := Lib.half_mul_le (a := A / 4294967296) (b := B / 4294967296) (by omega) (by omega)
  have g2 := Lib.half_mul_le (a := A / 4294967296) (b := B % 4294967296) (by omega) (by omega)
  have g3 := Lib.half_mul_le (a := A % 4294967296) (b := B / 4294967296) (by omega) (by omega)
  have r1 := mask32 A hA
  have r2 := mask32 B hB
  have r3 : (A : Int) / 4294967296 = ((A / 4294967296 : Nat) : Int) := by rw [Int.natCast_ediv]; rfl
  have r4 : (B : Int) / 4294967296 = ((B / 4294967296 : Nat) : Int) := by rw [Int.natCast_ediv]; rfl
  have m00 := wrap_nat (A % 4294967296) (B % 4294967296) l1
  have m10 := wrap_nat (A / 4294967296) (B % 4294967296) (by omega)
  have m01 := wrap_nat (A % 4294967296) (B / 4294967296) (by omega)
  have m11 := wrap_nat (A / 4294967296) (B / 4294967296) (by omega)
  have ml : IntKind.u64.wrap ((A : Int) * (B : Int)) = ((A * B % 18446744073709551616 : Nat) : Int) := by
    rw [← Int.natCast_mul, IntKind.wrap_u64]
    rfl
  have HL : Hid _ := l4
  clear l4
  generalize A * B / 18446744073709551616 = hi at *
  generalize A * B % 18446744073709551616 = lo at *
  generalize A % 4294967296 = x0 at *
  generalize A / 4294967296 = x1 at *
  generalize B % 4294967296 = y0 at *
  generalize B / 4294967296 = y1 at *
  generalize x0 * y0 = p00 at *
  generalize x1 * y0 = p10 at *
  generalize x0 * y1 = p01 at *
  generalize x1 * y1 = p11 at *
  have mk := mask32 (p10 + p00 / 4294967296) l2
  have mk' : bits .and .u64 ((p10 : Int) + (p00 : Int) / 4294967296) 4294967295 = (((p10 + p00 / 4294967296) % 4294967296 : Nat) : Int) := by
    rw [← mk]
    congr 1
  clear mk
  obtain ⟨tm, htm⟩ : ∃ tm, tm = (p10 + p00 / 4294967296) % 4294967296 := ⟨_, rfl⟩
  rw [← htm] at mk' l3
  have HT : Hid (tm = (p10 + p00 / 4294967296) % 4294967296) := htm
  have htb : tm < 4294967296 := by omega
  clear htm
  have HE : Hid (∀ x : Int, x = (hi : Int) → Ending.returned (.tuple #[.int .u64 x, .int .u64 (lo : Int)]) = Ending.returned (.tuple #[.int .u64 (hi : Int), .int .u64 (lo : Int)])) := fun x hx => by rw [hx]
  go_enter Tryd.func66, Tryd.ntmps66
  go_wp2
  go_ret2
  exact ⟨HE.out _ (by have h1 := HL.out; have h2 := HT.out; omega), rfl⟩

set_option maxRecDepth 100000 in
theorem wideNan_any (w : World) : Calls Tryd.prog 60 #[] w fun e w' => e = .returned (.agg #[.int .i64 3, .bool false, .int .i64 0, .int .u64 0, .int .u64 0]) ∧ Below w.heap.size w w' := by
  go_enter Tryd.func60, Tryd.ntmps60
  go_wp2
  refine bodyPost_ret (v := .agg #[.int .i64 3, .bool false, .int .i64 0, .int .u64 0, .int .u64 0]) (by simp [results, Tryd.results60, go_sem]) rfl ⟨rfl, ?_⟩
  first | exact Below.refl _ _ | exact below_one _ | exact below_two _ _

set_option maxRecDepth 100000 in
theorem wideOf_any (K : Int) (n : Bool) (w : World) : Calls Tryd.prog 65 #[.int .i64 K, .bool n] w fun e w' => e = .returned (.agg #[.int .i64 K, .bool n, .int .i64 0, .int .u64 0, .int .u64 0]) ∧ Below w.heap.size w w' := by
  go_enter Tryd.func65, Tryd.ntmps65
  go_wp2
  refine bodyPost_ret (v := .agg #[.int .i64 K, .bool n, .int .i64 0, .int .u64 0, .int .u64 0]) (by simp [results, Tryd.results65, go_sem]) rfl ⟨rfl, ?_⟩
  first | exact Below.refl _ _ | exact below_one _ | exact below_two _ _

set_option maxRecDepth 100000 in
set_option maxHeartbeats 1000000 in
theorem mulNums_fin (ea eb : Int) (na nb : Bool) (A B : Nat) (w : World) (hA : A < 18446744073709551616) (hB : B < 18446744073709551616) (a0 : -5000 ≤ ea) (a1 : ea ≤ 5000) (b0 : -5000 ≤ eb) (b1 : eb ≤ 5000) :
    Calls Tryd.prog 28 #[.agg #[.int .i64 1, .bool na, .int .i64 ea, .int .u64 (A : Int)], .agg #[.int .i64 1, .bool nb, .int .i64 eb, .int .u64 (B : Int)]] w fun e w' => e = .returned (.agg #[.int .i64 1, .bool (na != nb), .int .i64 (ea + eb + 64), .int .u64 (A * B / 18446744073709551616 : Nat), .int .u64 (A * B % 18446744073709551616 : Nat)]) ∧ Below w.heap.size w w' := by
  have hm := fun w => mul64_any A B w hA hB
  generalize A * B / 18446744073709551616 = hi at *
  generalize A * B % 18446744073709551616 = lo at *
  go_enter Tryd.func28, Tryd.ntmps28
  go_wp2_with (go_at_call 66; refine (hm _).mono ?_; rintro e w' ⟨rfl, hw⟩; obtain rfl := hw.symm)
  refine bodyPost_ret (v := .agg #[.int .i64 1, .bool (!(na == nb)), .int .i64 (ea + eb + 64), .int .u64 (hi : Int), .int .u64 (lo : Int)]) (by simp [results, Tryd.results28, go_sem]) rfl ⟨rfl, ?_⟩
  exact below_34 _ _ _

/-- The kind of a product of two numbers that are no NaNs and not both finite and not 0. -/
def mulK (a b : Int) : Int := if (a = 2 ∨ b = 2) ∧ (a = 0 ∨ b = 0) then 3 else if a = 2 ∨ b = 2 then 2 else 0
def mulN (a b : Int) (s : Bool) : Bool := if (a = 2 ∨ b = 2) ∧ (a = 0 ∨ b = 0) then false else s

theorem below_3s {w W : World} {o1 o2 o3 : Obj} (hb : Below (((w.alloc o1).alloc o2).alloc o3).heap.size (((w.alloc o1).alloc o2).alloc o3) W) : Below w.heap.size w W :=
  (below_34 o1 o2 o3).trans (hb.mono (below_34 o1 o2 o3).size)

theorem res_cell {w W : World} {o1 o2 : Obj} {c : Array Value} {t : TypeId} (hb : Below (((w.alloc o1).alloc o2).alloc (.cells c t)).heap.size (((w.alloc o1).alloc o2).alloc (.cells c t)) W) (j : Nat) :
    W.cell? ⟨w.heap.size + 2, j, none⟩ = c[j]? ∧ W.frozen? ⟨w.heap.size + 2, j, none⟩ = false := by
  have hl : w.heap.size + 2 < (((w.alloc o1).alloc o2).alloc (.cells c t)).heap.size := by simp
  refine ⟨?_, ?_⟩
  · rw [hb.cell (p := ⟨w.heap.size + 2, j, none⟩) hl, World.cell?_alloc_at _ _ _ _ (by simp)]
  · rw [hb.frozen (p := ⟨w.heap.size + 2, j, none⟩) hl, World.frozen?_alloc_at _ _ _ _ (by simp)]

set_option maxRecDepth 100000 in
set_option maxHeartbeats 2000000 in
theorem mulNums_no (ka kb ea eb A B : Int) (na nb : Bool) (w : World) (ha : ka = 0 ∨ ka = 1 ∨ ka = 2) (hb : kb = 0 ∨ kb = 1 ∨ kb = 2) (hno : ¬ (ka = 1 ∧ kb = 1)) :
    Calls Tryd.prog 28 #[.agg #[.int .i64 ka, .bool na, .int .i64 ea, .int .u64 A], .agg #[.int .i64 kb, .bool nb, .int .i64 eb, .int .u64 B]] w fun e w' => e = .returned (.agg #[.int .i64 (mulK ka kb), .bool (mulN ka kb (na != nb)), .int .i64 0, .int .u64 0, .int .u64 0]) ∧ Below w.heap.size w w' := by
  have hN := fun w => wideNan_any w
  have hO := fun K n w => wideOf_any K n w
  rcases ha with rfl | rfl | rfl <;> rcases hb with rfl | rfl | rfl
  case inr.inl.inr.inl => exact absurd ⟨rfl, rfl⟩ hno
  all_goals
    clear hno
    go_enter Tryd.func28, Tryd.ntmps28
    go_wp2_with (first | (go_at_call 60; refine (hN _).mono ?_; rintro e w1 ⟨rfl, hb1⟩; have d0 := res_cell hb1 0; have d1 := res_cell hb1 1; have d2 := res_cell hb1 2; have d3 := res_cell hb1 3; have d4 := res_cell hb1 4) | (go_at_call 65; refine (hO _ _ _).mono ?_; rintro e w1 ⟨rfl, hb1⟩; have d0 := res_cell hb1 0; have d1 := res_cell hb1 1; have d2 := res_cell hb1 2; have d3 := res_cell hb1 3; have d4 := res_cell hb1 4))
    first
      | refine bodyPost_ret (v := .agg #[.int .i64 0, .bool (!(na == nb)), .int .i64 0, .int .u64 0, .int .u64 0]) (by simp [results, Tryd.results28, go_sem, d0, d1, d2, d3, d4]) rfl ⟨rfl, ?_⟩
      | refine bodyPost_ret (v := .agg #[.int .i64 2, .bool (!(na == nb)), .int .i64 0, .int .u64 0, .int .u64 0]) (by simp [results, Tryd.results28, go_sem, d0, d1, d2, d3, d4]) rfl ⟨rfl, ?_⟩
      | refine bodyPost_ret (v := .agg #[.int .i64 3, .bool false, .int .i64 0, .int .u64 0, .int .u64 0]) (by simp [results, Tryd.results28, go_sem, d0, d1, d2, d3, d4]) rfl ⟨rfl, ?_⟩
    exact (((((below_3s hb1).setCell (by show w.heap.size ≤ w.heap.size + 1 + 1; omega) _).setCell (by show w.heap.size ≤ w.heap.size + 1 + 1; omega) _).setCell (by show w.heap.size ≤ w.heap.size + 1 + 1; omega) _).setCell (by show w.heap.size ≤ w.heap.size + 1 + 1; omega) _).setCell (by show w.heap.size ≤ w.heap.size + 1 + 1; omega) _
end Go.Proofs.YtcpnmcfpnhokgaaDoor
