/- How many bits a word has: the library's table of bytes, and the library's Len64. -/
import Derived.Test.YtghblaphkbcgpaaDoorRows
import Derived.WalkKit
import Derived.KernelRfl
import Derived.WalkSpells
import Derived.WalkLawsBesides
import Derived.Test.YtghblaphkbcgpaaDoorHS1
import Derived.Laws.ShiftsVarLaws
namespace Go.Proofs.YtghblaphkbcgpaaDoor
open Go.RowKit

/-- The library's table, as its text has it. -/
def tab8 : ByteArray := { data := #[0, 1, 2, 2, 3, 3, 3, 3, 4, 4, 4, 4, 4, 4, 4, 4, 5, 5, 5, 5, 5, 5, 5, 5, 5, 5, 5, 5, 5, 5, 5, 5, 6, 6, 6, 6, 6, 6, 6, 6, 6, 6, 6, 6, 6, 6, 6, 6, 6, 6, 6, 6, 6, 6, 6, 6, 6, 6, 6, 6, 6, 6, 6, 6, 7, 7, 7, 7, 7, 7, 7, 7, 7, 7, 7, 7, 7, 7, 7, 7, 7, 7, 7, 7, 7, 7, 7, 7, 7, 7, 7, 7, 7, 7, 7, 7, 7, 7, 7, 7, 7, 7, 7, 7, 7, 7, 7, 7, 7, 7, 7, 7, 7, 7, 7, 7, 7, 7, 7, 7, 7, 7, 7, 7, 7, 7, 7, 7, 8, 8, 8, 8, 8, 8, 8, 8, 8, 8, 8, 8, 8, 8, 8, 8, 8, 8, 8, 8, 8, 8, 8, 8, 8, 8, 8, 8, 8, 8, 8, 8, 8, 8, 8, 8, 8, 8, 8, 8, 8, 8, 8, 8, 8, 8, 8, 8, 8, 8, 8, 8, 8, 8, 8, 8, 8, 8, 8, 8, 8, 8, 8, 8, 8, 8, 8, 8, 8, 8, 8, 8, 8, 8, 8, 8, 8, 8, 8, 8, 8, 8, 8, 8, 8, 8, 8, 8, 8, 8, 8, 8, 8, 8, 8, 8, 8, 8, 8, 8, 8, 8, 8, 8, 8, 8, 8, 8, 8, 8, 8, 8, 8, 8, 8, 8, 8, 8, 8, 8, 8, 8, 8, 8, 8, 8, 8, 8] }

theorem tab8_size : tab8.size = 256 := by kernel_rfl

theorem tab8_at : ∀ n : Fin 256, (tab8.get n.val (by rw [tab8_size]; exact n.isLt)).toNat ≤ 8 ∧ n.val < 2 ^ (tab8.get n.val (by rw [tab8_size]; exact n.isLt)).toNat ∧ 2 ^ (tab8.get n.val (by rw [tab8_size]; exact n.isLt)).toNat ≤ 2 * n.val + 1 := by
  decide +kernel

/-- x has L bits. -/
structure Bits (x : Int) (L : Nat) : Prop where
  le : L ≤ 64
  lt : x < ((2 ^ L : Nat) : Int)
  ge : ((2 ^ L : Nat) : Int) ≤ 2 * x + 1

theorem Bits.up {x : Int} {L : Nat} (k : Nat) (h0 : 0 ≤ x) (h : Bits (x / ((2 ^ k : Nat) : Int)) L) (hk : k + L ≤ 64) (hp : 0 < x / ((2 ^ k : Nat) : Int)) : Bits x (k + L) := by
  obtain ⟨n, rfl⟩ := Int.eq_ofNat_of_zero_le h0
  have h1 : n / 2 ^ k < 2 ^ L := by have := h.lt; exact_mod_cast this
  have h2 : 2 ^ L ≤ 2 * (n / 2 ^ k) + 1 := by have := h.ge; exact_mod_cast this
  have h3 : 0 < n / 2 ^ k := by exact_mod_cast hp
  have hL : L ≠ 0 := by
    intro e
    subst e
    rw [Nat.pow_zero] at h1
    omega
  obtain ⟨l, rfl⟩ : ∃ l, L = l + 1 := ⟨L - 1, by omega⟩
  have h4 : 2 ^ l ≤ n / 2 ^ k := by rw [Nat.pow_succ] at h2; omega
  have h5 : 2 ^ l * 2 ^ k ≤ n := (Nat.le_div_iff_mul_le (Nat.two_pow_pos k)).1 h4
  have h6 : n < 2 ^ (l + 1) * 2 ^ k := (Nat.div_lt_iff_lt_mul (Nat.two_pow_pos k)).1 h1
  refine ⟨hk, ?_, ?_⟩
  · have : n < 2 ^ (k + (l + 1)) := by rw [Nat.pow_add, Nat.mul_comm]; exact h6
    exact_mod_cast this
  · have : 2 ^ (k + (l + 1)) ≤ 2 * n + 1 := by
      rw [Nat.pow_add, Nat.pow_succ, Nat.mul_comm]
      rw [Nat.mul_right_comm]
      omega
    exact_mod_cast this

theorem Bits.small (x : Int) (h0 : 0 ≤ x) (h1 : x < 256) : Bits x (tab8.get x.toNat (by rw [tab8_size]; omega)).toNat := by
  have h := tab8_at ⟨x.toNat, by omega⟩
  simp only at h
  generalize (tab8.get x.toNat (by rw [tab8_size]; omega)).toNat = l at *
  have e1 : ((x.toNat : Nat) : Int) < ((2 ^ l : Nat) : Int) := by exact_mod_cast h.2.1
  have e2 : ((2 ^ l : Nat) : Int) ≤ ((2 * x.toNat + 1 : Nat) : Int) := by exact_mod_cast h.2.2
  exact ⟨by omega, by omega, by omega⟩

theorem tab8_le (x : Int) (h0 : 0 ≤ x) (h1 : x < 256) : (tab8.get x.toNat (by rw [tab8_size]; omega)).toNat ≤ 8 := by
  have h := tab8_at ⟨x.toNat, by omega⟩
  exact h.1

theorem wrap64_len (l : Nat) (n : Int) (h : l ≤ 64) (h0 : 0 ≤ n) (h1 : n ≤ 64) : wrap64 (n + wrap64 (l : Int)) = n + l ∧ wrap64 (wrap64 (l : Int)) = l := by
  unfold wrap64
  omega

set_option maxRecDepth 30000 in
set_option maxHeartbeats 4000000 in
theorem len_any (x : Int) (w : World) (h0 : 0 < x) (h1 : x < 18446744073709551616) :
    Calls Tryd.prog 56 #[.int .u64 x] w fun e w' => ∃ L : Nat, Bits x L ∧ e = .returned (.int .i64 (L : Int)) ∧ w' = w := by
  by_cases a32 : 4294967296 ≤ x
  · skip
    by_cases a16 : 65536 ≤ (x / 4294967296)
    · skip
      by_cases a8 : 256 ≤ ((x / 4294967296) / 65536)
      · skip
        have q := Bits.small (((x / 4294967296) / 65536) / 256) (by omega) (by omega)
        have ql := tab8_le (((x / 4294967296) / 65536) / 256) (by omega) (by omega)
        have q2 := q.up (x := ((x / 4294967296) / 65536)) 8 (by omega) (by omega) (by omega)
        have q1 := q2.up (x := (x / 4294967296)) 16 (by omega) (by omega) (by omega)
        have q0 := q1.up (x := x) 32 (by omega) (by omega) (by omega)
        clear q q1 q2
        go_enter Tryd.func56, Tryd.ntmps56
        go_wp2
        go_ret
        refine ⟨_, q0, ?_, rfl⟩
        show Ending.returned (.int .i64 (wrap64 (56 + wrap64 (((tab8.get ((((x / 4294967296) / 65536) / 256)).toNat (by rw [tab8_size]; omega)).toNat : Nat) : Int)))) = _
        rw [(wrap64_len _ 56 (by omega) (by decide) (by decide)).1]
        congr 2 <;> push_cast <;> omega
      · skip
        have q := Bits.small ((x / 4294967296) / 65536) (by omega) (by omega)
        have ql := tab8_le ((x / 4294967296) / 65536) (by omega) (by omega)
        have q1 := q.up (x := (x / 4294967296)) 16 (by omega) (by omega) (by omega)
        have q0 := q1.up (x := x) 32 (by omega) (by omega) (by omega)
        clear q q1
        go_enter Tryd.func56, Tryd.ntmps56
        go_wp2
        go_ret
        refine ⟨_, q0, ?_, rfl⟩
        show Ending.returned (.int .i64 (wrap64 (48 + wrap64 (((tab8.get (((x / 4294967296) / 65536)).toNat (by rw [tab8_size]; omega)).toNat : Nat) : Int)))) = _
        rw [(wrap64_len _ 48 (by omega) (by decide) (by decide)).1]
        congr 2 <;> push_cast <;> omega
    · skip
      by_cases a8 : 256 ≤ (x / 4294967296)
      · skip
        have q := Bits.small ((x / 4294967296) / 256) (by omega) (by omega)
        have ql := tab8_le ((x / 4294967296) / 256) (by omega) (by omega)
        have q1 := q.up (x := (x / 4294967296)) 8 (by omega) (by omega) (by omega)
        have q0 := q1.up (x := x) 32 (by omega) (by omega) (by omega)
        clear q q1
        go_enter Tryd.func56, Tryd.ntmps56
        go_wp2
        go_ret
        refine ⟨_, q0, ?_, rfl⟩
        show Ending.returned (.int .i64 (wrap64 (40 + wrap64 (((tab8.get (((x / 4294967296) / 256)).toNat (by rw [tab8_size]; omega)).toNat : Nat) : Int)))) = _
        rw [(wrap64_len _ 40 (by omega) (by decide) (by decide)).1]
        congr 2 <;> push_cast <;> omega
      · skip
        have q := Bits.small (x / 4294967296) (by omega) (by omega)
        have ql := tab8_le (x / 4294967296) (by omega) (by omega)
        have q0 := q.up (x := x) 32 (by omega) (by omega) (by omega)
        clear q
        go_enter Tryd.func56, Tryd.ntmps56
        go_wp2
        go_ret
        refine ⟨_, q0, ?_, rfl⟩
        show Ending.returned (.int .i64 (wrap64 (32 + wrap64 (((tab8.get ((x / 4294967296)).toNat (by rw [tab8_size]; omega)).toNat : Nat) : Int)))) = _
        rw [(wrap64_len _ 32 (by omega) (by decide) (by decide)).1]
        congr 2 <;> push_cast <;> omega
  · skip
    by_cases a16 : 65536 ≤ x
    · skip
      by_cases a8 : 256 ≤ (x / 65536)
      · skip
        have q := Bits.small ((x / 65536) / 256) (by omega) (by omega)
        have ql := tab8_le ((x / 65536) / 256) (by omega) (by omega)
        have q1 := q.up (x := (x / 65536)) 8 (by omega) (by omega) (by omega)
        have q0 := q1.up (x := x) 16 (by omega) (by omega) (by omega)
        clear q q1
        go_enter Tryd.func56, Tryd.ntmps56
        go_wp2
        go_ret
        refine ⟨_, q0, ?_, rfl⟩
        show Ending.returned (.int .i64 (wrap64 (24 + wrap64 (((tab8.get (((x / 65536) / 256)).toNat (by rw [tab8_size]; omega)).toNat : Nat) : Int)))) = _
        rw [(wrap64_len _ 24 (by omega) (by decide) (by decide)).1]
        congr 2 <;> push_cast <;> omega
      · skip
        have q := Bits.small (x / 65536) (by omega) (by omega)
        have ql := tab8_le (x / 65536) (by omega) (by omega)
        have q0 := q.up (x := x) 16 (by omega) (by omega) (by omega)
        clear q
        go_enter Tryd.func56, Tryd.ntmps56
        go_wp2
        go_ret
        refine ⟨_, q0, ?_, rfl⟩
        show Ending.returned (.int .i64 (wrap64 (16 + wrap64 (((tab8.get ((x / 65536)).toNat (by rw [tab8_size]; omega)).toNat : Nat) : Int)))) = _
        rw [(wrap64_len _ 16 (by omega) (by decide) (by decide)).1]
        congr 2 <;> push_cast <;> omega
    · skip
      by_cases a8 : 256 ≤ x
      · skip
        have q := Bits.small (x / 256) (by omega) (by omega)
        have ql := tab8_le (x / 256) (by omega) (by omega)
        have q0 := q.up (x := x) 8 (by omega) (by omega) (by omega)
        clear q
        go_enter Tryd.func56, Tryd.ntmps56
        go_wp2
        go_ret
        refine ⟨_, q0, ?_, rfl⟩
        show Ending.returned (.int .i64 (wrap64 (8 + wrap64 (((tab8.get ((x / 256)).toNat (by rw [tab8_size]; omega)).toNat : Nat) : Int)))) = _
        rw [(wrap64_len _ 8 (by omega) (by decide) (by decide)).1]
        congr 2 <;> push_cast <;> omega
      · skip
        have q := Bits.small x (by omega) (by omega)
        have ql := tab8_le x (by omega) (by omega)
        go_enter Tryd.func56, Tryd.ntmps56
        go_wp2
        go_ret
        refine ⟨_, q, ?_, rfl⟩
        show Ending.returned (.int .i64 (wrap64 (wrap64 (((tab8.get (x).toNat (by rw [tab8_size]; omega)).toNat : Nat) : Int)))) = _
        rw [(wrap64_len _ 0 (by omega) (by decide) (by decide)).2]
end Go.Proofs.YtghblaphkbcgpaaDoor

/- The program's rounding of a number that needs none. -/
namespace Go.Proofs.YtghblaphkbcgpaaDoor
open Go.RowKit

set_option maxHeartbeats 1000000 in
theorem round_exact (mode K E u man m : Int) (k : Nat) (n : Bool) (w : World) (ht : Tz m man k) (hm : m < 18446744073709551616) (_hE0 : -100000 < E) (_hE1 : E < 100000) (hu : u = E - k) :
    Calls Tryd.prog 57 #[.int .i64 mode, .agg #[.int .i64 K, .bool n, .int .i64 E, .int .u64 man], .int .i64 u] w fun e w' => e = .returned (.tuple #[.int .u64 m, .bool true]) ∧ Below w.heap.size w w' := by
  have hk := (ht.le hm).1
  have hval : IntKind.u64.wrap (man * 2 ^ (-(E - (k : Int) - E)).toNat) = m := by
    have e : (-(E - (k : Int) - E)).toNat = k := by omega
    have e2 : (2 : Int) ^ k = ((2 ^ k : Nat) : Int) := by push_cast; rfl
    rw [e, e2, ← ht.eq, IntKind.wrap_u64]
    have := ht.pos
    have := (ht.le hm).2
    omega
  have HV : Hid (IntKind.u64.wrap (man * 2 ^ (-(E - (k : Int) - E)).toNat) = m) := hval
  clear hval
  have hu1 : u ≤ E := by omega
  have hu2 : E - 64 < u := by omega
  go_enter Tryd.func57, Tryd.ntmps57
  go_wp2
  go_ret2
  refine ⟨?_, (Below.refl _ _).alloc (Nat.le_refl _) _⟩
  show Ending.returned (.tuple #[.int .u64 (IntKind.u64.wrap (man * 2 ^ (-(E - (k : Int) - E)).toNat)), .bool true]) = _
  rw [HV.out]

theorem Bits.unique {x : Int} {L L' : Nat} (h : Bits x L) (g : Bits x L') : L = L' := by
  have key : ∀ {L L' : Nat}, Bits x L → Bits x L' → ¬ L < L' := by
    intro L L' h g hlt
    have h1 := h.lt
    have h2 := g.ge
    have h3 : 2 ^ (L + 1) ≤ 2 ^ L' := Nat.pow_le_pow_right (by omega) hlt
    have h4 : ((2 ^ (L + 1) : Nat) : Int) ≤ ((2 ^ L' : Nat) : Int) := by exact_mod_cast h3
    rw [Nat.pow_succ] at h4
    push_cast at h1 h2 h4
    omega
  have a := key h g
  have b := key g h
  omega

theorem len_of (x : Int) (h0 : 0 < x) (h1 : x < 18446744073709551616) : ∃ L : Nat, Bits x L ∧ ∀ w, Calls Tryd.prog 56 #[.int .u64 x] w fun e w' => e = .returned (.int .i64 (L : Int)) ∧ w' = w := by
  have ex : ∃ L, Bits x L := by
    obtain ⟨n, rfl⟩ := Int.eq_ofNat_of_zero_le (show 0 ≤ x by omega)
    refine ⟨Nat.log2 n + 1, ?_, ?_, ?_⟩
    · have : Nat.log2 n < 64 := (Nat.log2_lt (by omega)).2 (by omega)
      omega
    · have : n < 2 ^ (Nat.log2 n + 1) := Nat.lt_log2_self
      exact_mod_cast this
    · have : 2 ^ Nat.log2 n ≤ n := Nat.log2_self_le (by omega)
      have e : 2 ^ (Nat.log2 n + 1) ≤ 2 * n + 1 := by rw [Nat.pow_succ]; omega
      exact_mod_cast e
  obtain ⟨L, hL⟩ := ex
  refine ⟨L, hL, fun w => (len_any x w h0 h1).mono ?_⟩
  rintro e w' ⟨L', hL', rfl, rfl⟩
  rw [hL.unique hL']
  exact ⟨rfl, rfl⟩

/-- A number of L bits, k twos more, that stays below 2^p, or fills it. -/
theorem Bits.room {m man : Int} {k L p : Nat} (hb : Bits man L) (ht : Tz m man k) (hm : m < ((2 ^ p : Nat) : Int)) : k + L ≤ p ∧ (((2 ^ p : Nat) : Int) ≤ 2 * m → k + L = p) := by
  obtain ⟨n, rfl⟩ := Int.eq_ofNat_of_zero_le (show 0 ≤ man by have := ht.pos; omega)
  have he : m = ((n * 2 ^ k : Nat) : Int) := by rw [ht.eq, Int.natCast_mul]
  have hn : 1 ≤ n := by have := ht.pos; omega
  have h1 : n < 2 ^ L := by have := hb.lt; exact_mod_cast this
  have h2 : 2 ^ L ≤ 2 * n + 1 := by have := hb.ge; exact_mod_cast this
  have h3 : n * 2 ^ k < 2 ^ p := by rw [he] at hm; exact_mod_cast hm
  have hL : L ≠ 0 := by
    intro e
    subst e
    rw [Nat.pow_zero] at h1
    omega
  obtain ⟨l, rfl⟩ : ∃ l, L = l + 1 := ⟨L - 1, by omega⟩
  have h4 : 2 ^ l ≤ n := by rw [Nat.pow_succ] at h2; omega
  have h5 : 2 ^ l * 2 ^ k ≤ n * 2 ^ k := Nat.mul_le_mul_right _ h4
  have h6 : 2 ^ (l + k) < 2 ^ p := by rw [Nat.pow_add]; omega
  have h7 : l + k < p := (Nat.pow_lt_pow_iff_right (by omega)).1 h6
  refine ⟨by omega, fun hge => ?_⟩
  have h8 : 2 ^ p ≤ 2 * (n * 2 ^ k) := by rw [he] at hge; exact_mod_cast hge
  have h9 : n * 2 ^ k < 2 ^ (l + 1) * 2 ^ k := Nat.mul_lt_mul_of_pos_right h1 (Nat.two_pow_pos k)
  rw [← Nat.pow_add] at h9
  have h10 : 2 ^ p < 2 ^ (l + 1 + k + 1) := by rw [Nat.pow_succ]; omega
  have h11 : p < l + 1 + k + 1 := (Nat.pow_lt_pow_iff_right (by omega)).1 h10
  omega
end Go.Proofs.YtghblaphkbcgpaaDoor
