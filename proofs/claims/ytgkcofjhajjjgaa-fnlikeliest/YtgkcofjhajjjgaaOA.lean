/- Ones of a byte, parities. -/
import Derived.Test.YtgkcofjhajjjgaaBT
import Derived.WalkKit
import Derived.WalkSpells
import Derived.WalkLawsBesides
import Derived.Deep.QuietTactic
import Derived.BigQuiet
namespace Go.Proofs.Ytgkcofjhajjjgaa
open Go.RowKit

/-- How many ones a byte has. -/
def ones (x : Nat) : Nat := x % 2 + x / 2 % 2 + x / 4 % 2 + x / 8 % 2 + x / 16 % 2 + x / 32 % 2 + x / 64 % 2 + x / 128 % 2

theorem ones_le (x : Nat) : ones x ≤ 8 := by unfold ones; omega
theorem ones_step {x : Nat} (h : x < 256) : ones x = x % 2 + ones (x / 2) := by unfold ones; omega
theorem ones_zero : ones 0 = 0 := rfl

theorem o1 : ∀ x : Fin 256, bits .and .u64 ((x.val : Int) / 2) 6148914691236517205 = ((x.val / 2 &&& 85 : Nat) : Int) ∧ bits .and .u64 (x.val : Int) 6148914691236517205 = ((x.val &&& 85 : Nat) : Int) := by decide +kernel
theorem o2 : ∀ x : Fin 256, bits .and .u64 ((x.val : Int) / 4) 3689348814741910323 = ((x.val / 4 &&& 51 : Nat) : Int) ∧ bits .and .u64 (x.val : Int) 3689348814741910323 = ((x.val &&& 51 : Nat) : Int) := by decide +kernel
theorem o3 : ∀ x : Fin 256, bits .and .u64 (x.val : Int) 1085102592571150095 = ((x.val &&& 15 : Nat) : Int) := by decide +kernel
theorem o4 : ∀ x : Fin 256, bits .and .i64 (x.val : Int) 127 = ((x.val &&& 127 : Nat) : Int) := by decide +kernel
def oA (x : Nat) : Nat := (x / 2 &&& 85) + (x &&& 85)
def oB (x : Nat) : Nat := (x / 4 &&& 51) + (x &&& 51)
def oC (x : Nat) : Nat := (x / 16 + x) &&& 15
theorem o5 : ∀ x : Fin 256, oA x.val < 256 ∧ oB (oA x.val) < 200 ∧ oB (oA x.val) / 16 + oB (oA x.val) < 256 ∧ oC (oB (oA x.val)) = ones x.val ∧ (ones x.val &&& 127) = ones x.val := by decide +kernel
theorem u64w {x : Nat} (h : x < 18446744073709551616) : IntKind.u64.wrap (x : Int) = (x : Int) := by rw [IntKind.wrap_u64]; omega

set_option maxHeartbeats 2000000 in
theorem ones64_any (x : Nat) (h : x < 256) (w : World) : Calls Try.prog 69 #[.int .u64 (x : Int)] w fun e w' => e = .returned (.int .i64 ((ones x : Nat) : Int)) ∧ w' = w := by
  obtain ⟨a1, a2⟩ := o1 ⟨x, h⟩
  obtain ⟨b0, b1, b2, b3, b4⟩ := o5 ⟨x, h⟩
  obtain ⟨c1, c2⟩ := o2 ⟨oA x, b0⟩
  have d1 := o3 ⟨oB (oA x) / 16 + oB (oA x), b2⟩
  have hl := ones_le x
  have f1 := o4 ⟨ones x, by omega⟩
  simp only at a1 a2 b0 b1 b2 b3 b4 c1 c2 d1 f1
  have d2 : bits .and .u64 ((oB (oA x) / 16 + oB (oA x) : Nat) : Int) 1085102592571150095 = ((ones x : Nat) : Int) := d1.trans (congrArg _ b3)
  rw [b4] at f1
  generalize ones x = r at *
  have g1 : IntKind.u64.wrap (((x / 2 &&& 85 : Nat) : Int) + ((x &&& 85 : Nat) : Int)) = ((oA x : Nat) : Int) := by rw [← Int.natCast_add]; exact u64w (x := oA x) (by omega)
  generalize (x / 2 &&& 85) = p1 at *
  generalize (x &&& 85) = p2 at *
  generalize oA x = p3 at *
  have g2 : IntKind.u64.wrap (((p3 / 4 &&& 51 : Nat) : Int) + ((p3 &&& 51 : Nat) : Int)) = ((oB p3 : Nat) : Int) := by rw [← Int.natCast_add]; exact u64w (x := oB p3) (by omega)
  generalize (p3 / 4 &&& 51) = q1 at *
  generalize (p3 &&& 51) = q2 at *
  generalize oB p3 = q3 at *
  obtain ⟨q4, hq⟩ : ∃ q4 : Nat, q4 = q3 / 16 := ⟨_, rfl⟩
  have hq2 : (q3 : Int) / 16 = (q4 : Int) := by omega
  obtain ⟨q5, hq5⟩ : ∃ q5 : Nat, q5 = q4 + q3 := ⟨_, rfl⟩
  rw [← hq, ← hq5] at d2
  have g3 : IntKind.u64.wrap ((q4 : Int) + (q3 : Int)) = (q5 : Int) := by rw [← Int.natCast_add, ← hq5]; exact u64w (by omega)
  have g4 : (r : Int) / 256 = 0 := by omega
  have g5 : (r : Int) / 65536 = 0 := by omega
  have g6 : (r : Int) / 4294967296 = 0 := by omega
  have g7 : IntKind.u64.wrap (r : Int) = (r : Int) := u64w (by omega)
  clear hq hq5 b2 b3 d1
  go_enter Try.func69, Try.ntmps69
  go_wp2
  go_ret
  exact ⟨rfl, rfl⟩

theorem ones_any (x : Nat) (h : x < 256) (w : World) : Calls Try.prog 65 #[.int .u64 (x : Int)] w fun e w' => e = .returned (.int .i64 ((ones x : Nat) : Int)) ∧ w' = w := by
  have i1 := ones64_any x h
  generalize ones x = r at *
  go_enter Try.func65, Try.ntmps65
  go_wp2_with (first | (go_at_call 69; (with_reducible refine (i1 _).mono ?_); rintro e w' ⟨rfl, hw⟩; obtain rfl := hw.symm))
  go_ret
  exact ⟨rfl, rfl⟩

def par (x : Nat) : Nat := ones x % 2
theorem par_le (x : Nat) : par x ≤ 1 := by unfold par; omega

set_option maxHeartbeats 1000000 in
theorem l14_any (x : Nat) (h : x < 256) (w : World) : Calls Try.prog 54 #[.int .i64 (x : Int)] w fun e w' => e = .returned (.int .i64 ((ones x : Nat) : Int)) ∧ w' = w := by
  obtain ⟨z, hz⟩ : ∃ z : Nat, z = ones x := ⟨_, rfl⟩
  have HZ : Hid (z = ones x) := hz
  rw [← hz]
  clear hz
  go_enter Try.func54, Try.ntmps54
  go_wp2
  go_loopw [0, 3] (fun xv nv wr => ∃ k n : Nat, xv = .int .i64 (k : Int) ∧ nv = .int .i64 (n : Int) ∧ k < 256 ∧ n ≤ 8 ∧ wr = w ∧ Hid (n + ones k = z)) (fun xv _ _ => (intOf xv).toNat)
  case atStart => exact ⟨x, 0, rfl, rfl, h, by omega, rfl, (Nat.zero_add _).trans HZ.out.symm⟩
  case round =>
    obtain ⟨k, n, rfl, rfl, hk, hn, rfl, hrel⟩ := hrel
    by_cases h1 : 0 < k
    · obtain ⟨q, hq⟩ : ∃ q : Nat, q = k / 2 := ⟨_, rfl⟩
      obtain ⟨b, hb⟩ : ∃ b : Nat, b = k % 2 := ⟨_, rfl⟩
      have e1 : (k : Int) / 2 = (q : Int) := by omega
      have e3 : (k : Int).tdiv 2 = (q : Int) := by rw [Int.tdiv_eq_ediv_of_nonneg (by omega)]; omega
      have e4 : (k : Int) % 2 = (b : Int) := by omega
      have e5 : (k : Int).tmod 2 = (b : Int) := by rw [Int.tmod_eq_emod_of_nonneg (by omega)]; omega
      have hz2 := HZ.out
      have hz3 := ones_le x
      have HR : Hid (n + b + ones q = z) := by have := hrel.out; rw [ones_step hk, ← hq, ← hb] at this; show n + b + ones q = z; omega
      have hn2 : n + b ≤ 8 := by have := HR.out; omega
      have hlt : q < k := by omega
      clear hq hb hrel hz2 hz3
      go_wp2
      go_roundw
      case rel => exact ⟨q, n + b, rfl, by go_num, by omega, hn2, by trivial, HR.out⟩
      case measure => simp [intOf]; omega
    · obtain rfl : k = 0 := by omega
      have hzy : n = z := by have := hrel.out; rw [ones_zero] at this; exact this
      subst hzy
      go_wp2
      go_ret
      exact ⟨rfl, rfl⟩

theorem par_any (x : Nat) (h : x < 256) (w : World) : Calls Try.prog 58 #[.int .i64 (x : Int)] w fun e w' => e = .returned (.int .i64 ((par x : Nat) : Int)) ∧ w' = w := by
  have i1 := ones_any x h
  have h2 : bits .and .i64 ((ones x : Nat) : Int) 1 = ((par x : Nat) : Int) := by
    have := and_nat (a := ones x) (b := 1) (by have := ones_le x; omega) (by omega)
    rw [Nat.and_one_is_mod] at this
    exact this
  have h3 : IntKind.u64.wrap (x : Int) = (x : Int) := u64w (by omega)
  generalize ones x = r at *
  generalize par x = q at *
  go_enter Try.func58, Try.ntmps58
  go_wp2_with (first | (go_at_call 65; (with_reducible refine (i1 _).mono ?_); rintro e w' ⟨rfl, hw⟩; obtain rfl := hw.symm))
  go_ret
  exact ⟨rfl, rfl⟩
end Go.Proofs.Ytgkcofjhajjjgaa
