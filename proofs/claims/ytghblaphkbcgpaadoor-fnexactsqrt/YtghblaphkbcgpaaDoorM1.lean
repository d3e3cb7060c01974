/- The library's product of two words in two words; the program's product of two numbers. -/
import Derived.Test.YtghblaphkbcgpaaDoorJ1
import Derived.Lib.Mul64
import Derived.Test.YtghblaphkbcgpaaDoorK1
namespace Go.Proofs.YtghblaphkbcgpaaDoor
open Go.RowKit

theorem mask32 (x : Nat) (h : x < 18446744073709551616) : bits .and .u64 (x : Int) 4294967295 = ((x % 4294967296 : Nat) : Int) := by
  refine (u64_and_nat x 4294967295 h (by decide)).trans ?_
  congr 1
  exact Nat.and_two_pow_sub_one_eq_mod x 32

theorem wrap_nat (x y : Nat) (h : x * y < 18446744073709551616) : IntKind.u64.wrap ((x : Int) * (y : Int)) = ((x * y : Nat) : Int) := by
  rw [← Int.natCast_mul, IntKind.wrap_u64]
  omega

/-- The kind of a product of two numbers that are no NaNs and not both finite and not 0. -/
def mulK (a b : Int) : Int := if (a = 2 ∨ b = 2) ∧ (a = 0 ∨ b = 0) then 3 else if a = 2 ∨ b = 2 then 2 else 0
def mulN (a b : Int) (s : Bool) : Bool := if (a = 2 ∨ b = 2) ∧ (a = 0 ∨ b = 0) then false else s

theorem below_3s {w W : World} {o1 o2 o3 : Obj} (hb : Below (((w.alloc o1).alloc o2).alloc o3).heap.size (((w.alloc o1).alloc o2).alloc o3) W) : Below w.heap.size w W :=
  (below_34 o1 o2 o3).trans (hb.mono (below_34 o1 o2 o3).size)

theorem res_cell {w W : World} {o1 o2 : Obj} {c : Array Value} {t : TypeId} (hb : Below (((w.alloc o1).alloc o2).alloc (.cells c t)).heap.size (((w.alloc o1).alloc o2).alloc (.cells c t)) W) (j : Nat) :
    W.cell? ⟨w.heap.size + 2, j, none⟩ = c[j]? ∧ W.frozen? ⟨w.heap.size + 2, j, none⟩ = false := by
  have hl : w.heap.size + 2 < (((w.alloc o1).alloc o2).alloc (.cells c t)).heap.size := by simp
  refine ⟨?_, ?_⟩
  · rw [hb.cell (p := ⟨w.heap.size + 2, j, none⟩) hl, World.cell?_alloc_at _ _ _ _ (by simp)]
  · rw [hb.frozen (p := ⟨w.heap.size + 2, j, none⟩) hl, World.frozen?_alloc_at _ _ _ _ (by simp)]

end Go.Proofs.YtghblaphkbcgpaaDoor
