/- How many bits a word has: the library's table of bytes, and the library's Len64. -/
import Derived.Test.YtabdondefoldaaaDoorRows
import Derived.WalkKit
import Derived.KernelRfl
import Derived.WalkSpells
import Derived.WalkLawsBesides
namespace Go.Proofs.YtabdondefoldaaaDoor
open Go.RowKit

/-- The library's table, as its text has it. -/
def tab8 : ByteArray := { data := #[0, 1, 2, 2, 3, 3, 3, 3, 4, 4, 4, 4, 4, 4, 4, 4, 5, 5, 5, 5, 5, 5, 5, 5, 5, 5, 5, 5, 5, 5, 5, 5, 6, 6, 6, 6, 6, 6, 6, 6, 6, 6, 6, 6, 6, 6, 6, 6, 6, 6, 6, 6, 6, 6, 6, 6, 6, 6, 6, 6, 6, 6, 6, 6, 7, 7, 7, 7, 7, 7, 7, 7, 7, 7, 7, 7, 7, 7, 7, 7, 7, 7, 7, 7, 7, 7, 7, 7, 7, 7, 7, 7, 7, 7, 7, 7, 7, 7, 7, 7, 7, 7, 7, 7, 7, 7, 7, 7, 7, 7, 7, 7, 7, 7, 7, 7, 7, 7, 7, 7, 7, 7, 7, 7, 7, 7, 7, 7, 8, 8, 8, 8, 8, 8, 8, 8, 8, 8, 8, 8, 8, 8, 8, 8, 8, 8, 8, 8, 8, 8, 8, 8, 8, 8, 8, 8, 8, 8, 8, 8, 8, 8, 8, 8, 8, 8, 8, 8, 8, 8, 8, 8, 8, 8, 8, 8, 8, 8, 8, 8, 8, 8, 8, 8, 8, 8, 8, 8, 8, 8, 8, 8, 8, 8, 8, 8, 8, 8, 8, 8, 8, 8, 8, 8, 8, 8, 8, 8, 8, 8, 8, 8, 8, 8, 8, 8, 8, 8, 8, 8, 8, 8, 8, 8, 8, 8, 8, 8, 8, 8, 8, 8, 8, 8, 8, 8, 8, 8, 8, 8, 8, 8, 8, 8, 8, 8, 8, 8, 8, 8, 8, 8, 8, 8, 8, 8] }

theorem tab8_size : tab8.size = 256 := by kernel_rfl

theorem tab8_at : ∀ n : Fin 256, (tab8.get n.val (by rw [tab8_size]; exact n.isLt)).toNat ≤ 8 ∧ n.val < 2 ^ (tab8.get n.val (by rw [tab8_size]; exact n.isLt)).toNat ∧ 2 ^ (tab8.get n.val (by rw [tab8_size]; exact n.isLt)).toNat ≤ 2 * n.val + 1 := by
  decide +kernel

/-- x has L bits. -/
structure Bits (x : Int) (L : Nat) : Prop where
  le : L ≤ 64
  lt : x < ((2 ^ L : Nat) : Int)
  ge : ((2 ^ L : Nat) : Int) ≤ 2 * x + 1

theorem Bits.up {x : Int} {L : Nat} (k : Nat) (h0 : 0 ≤ x) (h : Bits (x / ((2 ^ k : Nat) : Int)) L) (hk : k + L ≤ 64) (hp : 0 < x / ((2 ^ k : Nat) : Int)) : Bits x (k + L) := by
  obtain ⟨n, rfl⟩ := Int.eq_ofNat_of_zero_le h0
  have h1 : n / 2 ^ k < 2 ^ L := by have := h.lt; exact_mod_cast this
  have h2 : 2 ^ L ≤ 2 * (n / 2 ^ k) + 1 := by have := h.ge; exact_mod_cast this
  have h3 : 0 < n / 2 ^ k := by exact_mod_cast hp
  have hL : L ≠ 0 := by
    intro e
    subst e
    rw [Nat.pow_zero] at h1
    omega
  obtain ⟨l, rfl⟩ : ∃ l, L = l + 1 := ⟨L - 1, by omega⟩
  have h4 : 2 ^ l ≤ n / 2 ^ k := by rw [Nat.pow_succ] at h2; omega
  have h5 : 2 ^ l * 2 ^ k ≤ n := (Nat.le_div_iff_mul_le (Nat.two_pow_pos k)).1 h4
  have h6 : n < 2 ^ (l + 1) * 2 ^ k := (Nat.div_lt_iff_lt_mul (Nat.two_pow_pos k)).1 h1
  refine ⟨hk, ?_, ?_⟩
  · have : n < 2 ^ (k + (l + 1)) := by rw [Nat.pow_add, Nat.mul_comm]; exact h6
    exact_mod_cast this
  · have : 2 ^ (k + (l + 1)) ≤ 2 * n + 1 := by
      rw [Nat.pow_add, Nat.pow_succ, Nat.mul_comm]
      rw [Nat.mul_right_comm]
      omega
    exact_mod_cast this

theorem Bits.small (x : Int) (h0 : 0 ≤ x) (h1 : x < 256) : Bits x (tab8.get x.toNat (by rw [tab8_size]; omega)).toNat := by
  have h := tab8_at ⟨x.toNat, by omega⟩
  simp only at h
  generalize (tab8.get x.toNat (by rw [tab8_size]; omega)).toNat = l at *
  have e1 : ((x.toNat : Nat) : Int) < ((2 ^ l : Nat) : Int) := by exact_mod_cast h.2.1
  have e2 : ((2 ^ l : Nat) : Int) ≤ ((2 * x.toNat + 1 : Nat) : Int) := by exact_mod_cast h.2.2
  exact ⟨by omega, by omega, by omega⟩

theorem tab8_le (x : Int) (h0 : 0 ≤ x) (h1 : x < 256) : (tab8.get x.toNat (by rw [tab8_size]; omega)).toNat ≤ 8 := by
  have h := tab8_at ⟨x.toNat, by omega⟩
  exact h.1

theorem wrap64_len (l : Nat) (n : Int) (h : l ≤ 64) (h0 : 0 ≤ n) (h1 : n ≤ 64) : wrap64 (n + wrap64 (l : Int)) = n + l ∧ wrap64 (wrap64 (l : Int)) = l := by
  unfold wrap64
  omega

set_option maxRecDepth 30000 in
set_option maxHeartbeats 4000000 in
theorem len_any (x : Int) (w : World) (h0 : 0 < x) (h1 : x < 18446744073709551616) :
    Calls Tryd.prog 43 #[.int .u64 x] w fun e w' => ∃ L : Nat, Bits x L ∧ e = .returned (.int .i64 (L : Int)) ∧ w' = w := by
  by_cases a32 : 4294967296 ≤ x
  · skip
    by_cases a16 : 65536 ≤ (x / 4294967296)
    · skip
      by_cases a8 : 256 ≤ ((x / 4294967296) / 65536)
      · skip
        have q := Bits.small (((x / 4294967296) / 65536) / 256) (by omega) (by omega)
        have ql := tab8_le (((x / 4294967296) / 65536) / 256) (by omega) (by omega)
        have q2 := q.up (x := ((x / 4294967296) / 65536)) 8 (by omega) (by omega) (by omega)
        have q1 := q2.up (x := (x / 4294967296)) 16 (by omega) (by omega) (by omega)
        have q0 := q1.up (x := x) 32 (by omega) (by omega) (by omega)
        clear q q1 q2
        go_enter Tryd.func43, Tryd.ntmps43
        go_wp2
        go_ret
        refine ⟨_, q0, ?_, rfl⟩
        show Ending.returned (.int .i64 (wrap64 (56 + wrap64 (((tab8.get ((((x / 4294967296) / 65536) / 256)).toNat (by rw [tab8_size]; omega)).toNat : Nat) : Int)))) = _
        rw [(wrap64_len _ 56 (by omega) (by decide) (by decide)).1]
        congr 2 <;> push_cast <;> omega
      · skip
        have q := Bits.small ((x / 4294967296) / 65536) (by omega) (by omega)
        have ql := tab8_le ((x / 4294967296) / 65536) (by omega) (by omega)
        have q1 := q.up (x := (x / 4294967296)) 16 (by omega) (by omega) (by omega)
        have q0 := q1.up (x := x) 32 (by omega) (by omega) (by omega)
        clear q q1
        go_enter Tryd.func43, Tryd.ntmps43
        go_wp2
        go_ret
        refine ⟨_, q0, ?_, rfl⟩
        show Ending.returned (.int .i64 (wrap64 (48 + wrap64 (((tab8.get (((x / 4294967296) / 65536)).toNat (by rw [tab8_size]; omega)).toNat : Nat) : Int)))) = _
        rw [(wrap64_len _ 48 (by omega) (by decide) (by decide)).1]
        congr 2 <;> push_cast <;> omega
    · skip
      by_cases a8 : 256 ≤ (x / 4294967296)
      · skip
        have q := Bits.small ((x / 4294967296) / 256) (by omega) (by omega)
        have ql := tab8_le ((x / 4294967296) / 256) (by omega) (by omega)
        have q1 := q.up (x := (x / 4294967296)) 8 (by omega) (by omega) (by omega)
        have q0 := q1.up (x := x) 32 (by omega) (by omega) (by omega)
        clear q q1
        go_enter Tryd.func43, Tryd.ntmps43
        go_wp2
        go_ret
        refine ⟨_, q0, ?_, rfl⟩
        show Ending.returned (.int .i64 (wrap64 (40 + wrap64 (((tab8.get (((x / 4294967296) / 256)).toNat (by rw [tab8_size]; omega)).toNat : Nat) : Int)))) = _
        rw [(wrap64_len _ 40 (by omega) (by decide) (by decide)).1]
        congr 2 <;> push_cast <;> omega
      · skip
        have q := Bits.small (x / 4294967296) (by omega) (by omega)
        have ql := tab8_le (x / 4294967296) (by omega) (by omega)
        have q0 := q.up (x := x) 32 (by omega) (by omega) (by omega)
        clear q
        go_enter Tryd.func43, Tryd.ntmps43
        go_wp2
        go_ret
        refine ⟨_, q0, ?_, rfl⟩
        show Ending.returned (.int .i64 (wrap64 (32 + wrap64 (((tab8.get ((x / 4294967296)).toNat (by rw [tab8_size]; omega)).toNat : Nat) : Int)))) = _
        rw [(wrap64_len _ 32 (by omega) (by decide) (by decide)).1]
        congr 2 <;> push_cast <;> omega
  · skip
    by_cases a16 : 65536 ≤ x
    · skip
      by_cases a8 : 256 ≤ (x / 65536)
      · skip
        have q := Bits.small ((x / 65536) / 256) (by omega) (by omega)
        have ql := tab8_le ((x / 65536) / 256) (by omega) (by omega)
        have q1 := q.up (x := (x / 65536)) 8 (by omega) (by omega) (by omega)
        have q0 := q1.up (x := x) 16 (by omega) (by omega) (by omega)
        clear q q1
        go_enter Tryd.func43, Tryd.ntmps43
        go_wp2
        go_ret
        refine ⟨_, q0, ?_, rfl⟩
        show Ending.returned (.int .i64 (wrap64 (24 + wrap64 (((tab8.get (((x / 65536) / 256)).toNat (by rw [tab8_size]; omega)).toNat : Nat) : Int)))) = _
        rw [(wrap64_len _ 24 (by omega) (by decide) (by decide)).1]
        congr 2 <;> push_cast <;> omega
      · skip
        have q := Bits.small (x / 65536) (by omega) (by omega)
        have ql := tab8_le (x / 65536) (by omega) (by omega)
        have q0 := q.up (x := x) 16 (by omega) (by omega) (by omega)
        clear q
        go_enter Tryd.func43, Tryd.ntmps43
        go_wp2
        go_ret
        refine ⟨_, q0, ?_, rfl⟩
        show Ending.returned (.int .i64 (wrap64 (16 + wrap64 (((tab8.get ((x / 65536)).toNat (by rw [tab8_size]; omega)).toNat : Nat) : Int)))) = _
        rw [(wrap64_len _ 16 (by omega) (by decide) (by decide)).1]
        congr 2 <;> push_cast <;> omega
    · skip
      by_cases a8 : 256 ≤ x
      · skip
        have q := Bits.small (x / 256) (by omega) (by omega)
        have ql := tab8_le (x / 256) (by omega) (by omega)
        have q0 := q.up (x := x) 8 (by omega) (by omega) (by omega)
        clear q
        go_enter Tryd.func43, Tryd.ntmps43
        go_wp2
        go_ret
        refine ⟨_, q0, ?_, rfl⟩
        show Ending.returned (.int .i64 (wrap64 (8 + wrap64 (((tab8.get ((x / 256)).toNat (by rw [tab8_size]; omega)).toNat : Nat) : Int)))) = _
        rw [(wrap64_len _ 8 (by omega) (by decide) (by decide)).1]
        congr 2 <;> push_cast <;> omega
      · skip
        have q := Bits.small x (by omega) (by omega)
        have ql := tab8_le x (by omega) (by omega)
        go_enter Tryd.func43, Tryd.ntmps43
        go_wp2
        go_ret
        refine ⟨_, q, ?_, rfl⟩
        show Ending.returned (.int .i64 (wrap64 (wrap64 (((tab8.get (x).toNat (by rw [tab8_size]; omega)).toNat : Nat) : Int)))) = _
        rw [(wrap64_len _ 0 (by omega) (by decide) (by decide)).2]
end Go.Proofs.YtabdondefoldaaaDoor
