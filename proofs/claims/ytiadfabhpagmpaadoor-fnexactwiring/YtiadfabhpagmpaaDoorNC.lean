/- Runes of at most two bytes. -/
import Derived.Test.YtiadfabhpagmpaaDoorNB
import Derived.Laws.RangeAny
namespace Go.Proofs.YtiadfabhpagmpaaDoor
open Go.RowKit

/-- The byte at a place. -/
def bat (s : ByteArray) (i : Nat) : Nat := (s.get! i).toNat

/-- The rune at a place as the model tells it: 0, 0 where it has none of at most two bytes. -/
def rn (s : ByteArray) (i : Nat) : Nat × Nat :=
  if bat s i < 128 then (bat s i, 1) else
  if (194 ≤ bat s i ∧ bat s i ≤ 223) ∧ i + 1 < s.size ∧ 128 ≤ bat s (i + 1) ∧ bat s (i + 1) ≤ 191 then ((bat s i - 192) * 64 + bat s (i + 1) - 128, 2) else (0, 0)

theorem bat_lt (s : ByteArray) (i : Nat) : bat s i < 256 := (s.get! i).toNat_lt

/-- What the machine tells of a place where the model has a rune, and where it has none. -/
theorem rn_some {s : ByteArray} {i : Nat} (h : (rn s i).2 ≠ 0) : Utf8.decode s i = rn s i := by
  unfold rn at h ⊢
  have h0 := bat_lt s i
  have h1 := bat_lt s (i + 1)
  have e0 : (s.get! (i + 0)).toNat = bat s i := rfl
  have e1 : (s.get! (i + 1)).toNat = bat s (i + 1) := rfl
  by_cases a : bat s i < 128
  · rw [if_pos a]
    simp only [Utf8.decode, e0, a, if_true]
  · rw [if_neg a] at h ⊢
    by_cases c : (194 ≤ bat s i ∧ bat s i ≤ 223) ∧ i + 1 < s.size ∧ 128 ≤ bat s (i + 1) ∧ bat s (i + 1) ≤ 191
    · rw [if_pos c]
      have q1 : bat s i / 32 = 6 := by omega
      have q2 : bat s (i + 1) / 64 = 2 := by omega
      have q3 : 128 ≤ bat s i % 32 * 64 + bat s (i + 1) % 64 := by omega
      have q4 : bat s i % 32 * 64 + bat s (i + 1) % 64 = (bat s i - 192) * 64 + bat s (i + 1) - 128 := by omega
      simp only [Utf8.decode, e0, e1, a, if_false, q1, q2, c.2.1, ge_iff_le, q3, if_true, decide_true, beq_self_eq_true, Bool.and_self]
      rw [q4]
    · rw [if_neg c] at h
      exact absurd rfl h

theorem rn_none {s : ByteArray} {i : Nat} (h : (rn s i).2 = 0) : 2048 ≤ (Utf8.decode s i).1 := by
  unfold rn at h
  have h0 := bat_lt s i
  have h1 := bat_lt s (i + 1)
  have e0 : (s.get! (i + 0)).toNat = bat s i := rfl
  have e1 : (s.get! (i + 1)).toNat = bat s (i + 1) := rfl
  by_cases a : bat s i < 128
  · rw [if_pos a] at h
    exact absurd h (by simp)
  · rw [if_neg a] at h
    by_cases c : (194 ≤ bat s i ∧ bat s i ≤ 223) ∧ i + 1 < s.size ∧ 128 ≤ bat s (i + 1) ∧ bat s (i + 1) ≤ 191
    · rw [if_pos c] at h
      exact absurd h (by simp)
    · have hw : (bat s i / 32 == 6 && (decide (i + 1 < s.size) && bat s (i + 1) / 64 == 2)) = true → ¬ 128 ≤ bat s i % 32 * 64 + bat s (i + 1) % 64 := by
        intro hx h8
        simp only [Bool.and_eq_true, beq_iff_eq, decide_eq_true_eq] at hx
        exact c ⟨by omega, hx.2.1, by omega, by omega⟩
      simp only [Utf8.decode, e0, e1, a, if_false]
      by_cases hx : (bat s i / 32 == 6 && (decide (i + 1 < s.size) && bat s (i + 1) / 64 == 2)) = true
      · rw [if_pos hx, if_neg (by simpa using hw hx)]
        decide
      · rw [if_neg hx]
        repeat' split
        all_goals simp_all [Utf8.runeError]
        all_goals omega

set_option maxRecDepth 20000 in
set_option maxHeartbeats 1000000 in
theorem sRune_any (s : ByteArray) (i : Nat) (hi : i < s.size) (hs : s.size ≤ 1048576) (w : World) : Calls Tryd.prog 45 #[.string s, .int .i64 i] w fun e w' => e = .returned (.tuple #[.int .i64 (rn s i).1, .int .i64 (rn s i).2]) ∧ w' = w := by
  have hx := bat_lt s i
  have ex : bat s i = (s[i]'hi).toNat := congrArg UInt8.toNat (get_at s i hi)
  rw [ex] at hx
  have EX : Hid _ := ex
  clear ex
  by_cases a : (s[i]'hi).toNat < 128
  · have hr : rn s i = ((s[i]'hi).toNat, 1) := by unfold rn; rw [EX.out, if_pos a]
    rw [hr]
    clear hr
    go_enter Tryd.func45, Tryd.ntmps45
    go_wp2
    go_ret2
    exact ⟨rfl, rfl⟩
  · by_cases b : 194 ≤ (s[i]'hi).toNat ∧ (s[i]'hi).toNat ≤ 223
    · by_cases c : i + 1 < s.size
      · have hy := bat_lt s (i + 1)
        have ey : bat s (i + 1) = (s[i + 1]'c).toNat := congrArg UInt8.toNat (get_at s (i + 1) c)
        rw [ey] at hy
        have EY : Hid _ := ey
        clear ey
        by_cases d : 128 ≤ (s[i + 1]'c).toNat ∧ (s[i + 1]'c).toNat ≤ 191
        · have hr : rn s i = (((s[i]'hi).toNat - 192) * 64 + (s[i + 1]'c).toNat - 128, 2) := by unfold rn; rw [EX.out, EY.out, if_neg a, if_pos ⟨b, c, d⟩]
          rw [hr]
          clear hr
          obtain ⟨b1, b2⟩ := b
          obtain ⟨d1, d2⟩ := d
          go_enter Tryd.func45, Tryd.ntmps45
          go_wp2
          go_ret2
          exact ⟨congrArg (fun z => Ending.returned (.tuple #[.int .i64 z, .int .i64 2])) (by omega), rfl⟩
        · have hr : rn s i = (0, 0) := by unfold rn; rw [EX.out, EY.out, if_neg a, if_neg (fun h => d h.2.2)]
          rw [hr]
          clear hr
          obtain ⟨b1, b2⟩ := b
          by_cases d1 : 128 ≤ (s[i + 1]'c).toNat
          · have d2 : ¬ (s[i + 1]'c).toNat ≤ 191 := fun h => d ⟨d1, h⟩
            clear d
            go_enter Tryd.func45, Tryd.ntmps45
            go_wp2
            go_ret2
            exact ⟨rfl, rfl⟩
          · clear d
            go_enter Tryd.func45, Tryd.ntmps45
            go_wp2
            go_ret2
            exact ⟨rfl, rfl⟩
      · have hr : rn s i = (0, 0) := by unfold rn; rw [EX.out, if_neg a, if_neg (fun h => c h.2.1)]
        rw [hr]
        clear hr
        obtain ⟨b1, b2⟩ := b
        go_enter Tryd.func45, Tryd.ntmps45
        go_wp2
        go_ret2
        exact ⟨rfl, rfl⟩
    · have hr : rn s i = (0, 0) := by unfold rn; rw [EX.out, if_neg a, if_neg (fun h => b h.1)]
      rw [hr]
      clear hr
      by_cases b1 : 194 ≤ (s[i]'hi).toNat
      · have b2 : ¬ (s[i]'hi).toNat ≤ 223 := fun h => b ⟨b1, h⟩
        clear b
        go_enter Tryd.func45, Tryd.ntmps45
        go_wp2
        go_ret2
        exact ⟨rfl, rfl⟩
      · clear b
        go_enter Tryd.func45, Tryd.ntmps45
        go_wp2
        go_ret2
        exact ⟨rfl, rfl⟩

end Go.Proofs.YtiadfabhpagmpaaDoor
