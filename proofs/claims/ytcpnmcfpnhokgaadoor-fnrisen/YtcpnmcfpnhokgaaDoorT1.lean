/- The library's TrailingZeros64: how often two divides a word that is not 0. -/
import Derived.Test.YtcpnmcfpnhokgaaDoorU1
import Derived.Lib.TrailingZeros
namespace Go.Proofs.YtcpnmcfpnhokgaaDoor
open Go.RowKit

/-- The library's table lies in memory as its text lays it. -/
structure Brj (w : World) : Prop where
  size : 1 < w.heap.size
  cells : ∀ i, i < 64 → w.cell? ⟨1, i, none⟩ = some (.int .u8 ((Lib.deBruijn64tab.getD i 0 : Nat) : Int))

theorem Brj.below {w w' : World} (h : Brj w) (hb : Below w.heap.size w w') : Brj w' :=
  ⟨Nat.lt_of_lt_of_le h.size hb.size, fun i hi => (hb.cell (p := ⟨1, i, none⟩) h.size).trans (h.cells i hi)⟩

theorem Brj.alloc {w : World} (h : Brj w) (o : Obj) : Brj (w.alloc o) := h.below ((Below.refl _ _).alloc (Nat.le_refl _) _)

set_option maxHeartbeats 1000000 in
theorem tz_walk (m a : Int) (j k : Nat) (w : World) (h0 : (m == 0) = false) (ha : bits .and .u64 m (IntKind.u64.wrap (-m)) = a)
    (hj : IntKind.u64.wrap (a * 285870213051353865) / 288230376151711744 = (j : Int)) (hj1 : (j : Int) < 64) (hk : (k : Int) < 64) (hc : w.cell? ⟨1, j, none⟩ = some (.int .u8 (k : Int))) :
    Calls Tryd.prog 75 #[.int .u64 m] w fun e w' => e = .returned (.int .i64 (k : Int)) ∧ w' = w := by
  go_enter Tryd.func75, Tryd.ntmps75
  go_wp2
  go_ret
  exact ⟨rfl, rfl⟩

theorem tz64 {m man : Int} {k : Nat} (h : Tz m man k) (ho : man % 2 = 1) (hm : m < 18446744073709551616) (w : World) (hb : Brj w) :
    Calls Tryd.prog 75 #[.int .u64 m] w fun e w' => e = .returned (.int .i64 (k : Int)) ∧ w' = w := by
  have hk := (h.le hm).1
  have hp := h.pos
  obtain ⟨n, rfl⟩ := Int.eq_ofNat_of_zero_le (show 0 ≤ man by omega)
  obtain ⟨q, rfl⟩ : ∃ q, n = 2 * q + 1 := ⟨n / 2, by omega⟩
  have he : m = ((2 ^ k * (2 * q + 1) : Nat) : Int) := by rw [h.eq, Nat.mul_comm (2 ^ k), Int.natCast_mul]
  have hlt : 2 ^ k * (2 * q + 1) < 2 ^ 64 := by
    have : ((2 ^ k * (2 * q + 1) : Nat) : Int) < ((2 ^ 64 : Nat) : Int) := by rw [← he]; exact hm
    exact_mod_cast this
  have hand := Lib.and_neg 64 k q hlt
  have hpos : 0 < 2 ^ k * (2 * q + 1) := Nat.mul_pos (Nat.two_pow_pos k) (by omega)
  obtain ⟨hj, hd⟩ := Lib.deBruijn64_at k (by omega)
  have hc := hb.cells _ hj
  rw [hd] at hc
  generalize 2 ^ k * (2 * q + 1) = u at *
  have hw : IntKind.u64.wrap (-m) = ((2 ^ 64 - u : Nat) : Int) := by
    rw [IntKind.wrap_u64, he]
    omega
  refine tz_walk m ((2 ^ k : Nat) : Int) _ k w (by rw [he]; simp; omega) ?_ ?_ ?_ (by omega) hc
  · rw [hw, he, u64_and_nat u (2 ^ 64 - u) hlt (by omega), hand]
  · rw [IntKind.wrap_u64]
    have : ((2 ^ k : Nat) : Int) * 285870213051353865 = ((2 ^ k * 285870213051353865 : Nat) : Int) := by rw [Int.natCast_mul]; rfl
    rw [this]
    omega
  · exact_mod_cast hj
end Go.Proofs.YtcpnmcfpnhokgaaDoor
