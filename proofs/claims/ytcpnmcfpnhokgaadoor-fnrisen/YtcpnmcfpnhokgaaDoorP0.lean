/- The program's rounding of a number that needs none. -/
import Derived.Test.YtcpnmcfpnhokgaaDoorPlain2
import Derived.Test.YtcpnmcfpnhokgaaDoorE2
import Derived.Laws.ShiftsVarLaws
namespace Go.Proofs.YtcpnmcfpnhokgaaDoor
open Go.RowKit

set_option maxHeartbeats 1000000 in
theorem round_exact (mode K E u man m : Int) (k : Nat) (n : Bool) (w : World) (ht : Tz m man k) (hm : m < 18446744073709551616) (_hE0 : -100000 < E) (_hE1 : E < 100000) (hu : u = E - k) :
    Calls Tryd.prog 95 #[.int .i64 mode, .agg #[.int .i64 K, .bool n, .int .i64 E, .int .u64 man], .int .i64 u] w fun e w' => e = .returned (.tuple #[.int .u64 m, .bool true]) ∧ Below w.heap.size w w' := by
  have hk := (ht.le hm).1
  have hval : IntKind.u64.wrap (man * 2 ^ (-(E - (k : Int) - E)).toNat) = m := by
    have e : (-(E - (k : Int) - E)).toNat = k := by omega
    have e2 : (2 : Int) ^ k = ((2 ^ k : Nat) : Int) := by push_cast; rfl
    rw [e, e2, ← ht.eq, IntKind.wrap_u64]
    have := ht.pos
    have := (ht.le hm).2
    omega
  have HV : Hid (IntKind.u64.wrap (man * 2 ^ (-(E - (k : Int) - E)).toNat) = m) := hval
  clear hval
  have hu1 : u ≤ E := by omega
  have hu2 : E - 64 < u := by omega
  go_enter Tryd.func95, Tryd.ntmps95
  go_wp2
  go_ret2
  refine ⟨?_, (Below.refl _ _).alloc (Nat.le_refl _) _⟩
  show Ending.returned (.tuple #[.int .u64 (IntKind.u64.wrap (man * 2 ^ (-(E - (k : Int) - E)).toNat)), .bool true]) = _
  rw [HV.out]

theorem Bits.unique {x : Int} {L L' : Nat} (h : Bits x L) (g : Bits x L') : L = L' := by
  have key : ∀ {L L' : Nat}, Bits x L → Bits x L' → ¬ L < L' := by
    intro L L' h g hlt
    have h1 := h.lt
    have h2 := g.ge
    have h3 : 2 ^ (L + 1) ≤ 2 ^ L' := Nat.pow_le_pow_right (by omega) hlt
    have h4 : ((2 ^ (L + 1) : Nat) : Int) ≤ ((2 ^ L' : Nat) : Int) := by exact_mod_cast h3
    rw [Nat.pow_succ] at h4
    push_cast at h1 h2 h4
    omega
  have a := key h g
  have b := key g h
  omega

theorem len_of (x : Int) (h0 : 0 < x) (h1 : x < 18446744073709551616) : ∃ L : Nat, Bits x L ∧ ∀ w, Calls Tryd.prog 94 #[.int .u64 x] w fun e w' => e = .returned (.int .i64 (L : Int)) ∧ w' = w := by
  have ex : ∃ L, Bits x L := by
    obtain ⟨n, rfl⟩ := Int.eq_ofNat_of_zero_le (show 0 ≤ x by omega)
    refine ⟨Nat.log2 n + 1, ?_, ?_, ?_⟩
    · have : Nat.log2 n < 64 := (Nat.log2_lt (by omega)).2 (by omega)
      omega
    · have : n < 2 ^ (Nat.log2 n + 1) := Nat.lt_log2_self
      exact_mod_cast this
    · have : 2 ^ Nat.log2 n ≤ n := Nat.log2_self_le (by omega)
      have e : 2 ^ (Nat.log2 n + 1) ≤ 2 * n + 1 := by rw [Nat.pow_succ]; omega
      exact_mod_cast e
  obtain ⟨L, hL⟩ := ex
  refine ⟨L, hL, fun w => (len_any x w h0 h1).mono ?_⟩
  rintro e w' ⟨L', hL', rfl, rfl⟩
  rw [hL.unique hL']
  exact ⟨rfl, rfl⟩

/-- A number of L bits, k twos more, that stays below 2^p, or fills it. -/
theorem Bits.room {m man : Int} {k L p : Nat} (hb : Bits man L) (ht : Tz m man k) (hm : m < ((2 ^ p : Nat) : Int)) : k + L ≤ p ∧ (((2 ^ p : Nat) : Int) ≤ 2 * m → k + L = p) := by
  obtain ⟨n, rfl⟩ := Int.eq_ofNat_of_zero_le (show 0 ≤ man by have := ht.pos; omega)
  have he : m = ((n * 2 ^ k : Nat) : Int) := by rw [ht.eq, Int.natCast_mul]
  have hn : 1 ≤ n := by have := ht.pos; omega
  have h1 : n < 2 ^ L := by have := hb.lt; exact_mod_cast this
  have h2 : 2 ^ L ≤ 2 * n + 1 := by have := hb.ge; exact_mod_cast this
  have h3 : n * 2 ^ k < 2 ^ p := by rw [he] at hm; exact_mod_cast hm
  have hL : L ≠ 0 := by
    intro e
    subst e
    rw [Nat.pow_zero] at h1
    omega
  obtain ⟨l, rfl⟩ : ∃ l, L = l + 1 := ⟨L - 1, by omega⟩
  have h4 : 2 ^ l ≤ n := by rw [Nat.pow_succ] at h2; omega
  have h5 : 2 ^ l * 2 ^ k ≤ n * 2 ^ k := Nat.mul_le_mul_right _ h4
  have h6 : 2 ^ (l + k) < 2 ^ p := by rw [Nat.pow_add]; omega
  have h7 : l + k < p := (Nat.pow_lt_pow_iff_right (by omega)).1 h6
  refine ⟨by omega, fun hge => ?_⟩
  have h8 : 2 ^ p ≤ 2 * (n * 2 ^ k) := by rw [he] at hge; exact_mod_cast hge
  have h9 : n * 2 ^ k < 2 ^ (l + 1) * 2 ^ k := Nat.mul_lt_mul_of_pos_right h1 (Nat.two_pow_pos k)
  rw [← Nat.pow_add] at h9
  have h10 : 2 ^ p < 2 ^ (l + 1 + k + 1) := by rw [Nat.pow_succ]; omega
  have h11 : p < l + 1 + k + 1 := (Nat.pow_lt_pow_iff_right (by omega)).1 h10
  omega
end Go.Proofs.YtcpnmcfpnhokgaaDoor
