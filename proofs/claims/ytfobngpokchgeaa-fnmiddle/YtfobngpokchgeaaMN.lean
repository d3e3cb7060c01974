/- Middles: the nearest numbers. -/
import Derived.Test.YtfobngpokchgeaaWA
import Derived.Test.YtfobngpokchgeaaMM
import Derived.Deep.QuietTactic
namespace Go.Proofs.Ytfobngpokchgeaa
open Go.RowKit

/-- The nearest place there is. -/
def npl (n : Nat) (i : Int) : Nat := if i < 0 then 0 else if (n : Int) ≤ i then n - 1 else i.toNat

theorem npl_lt {n : Nat} {i : Int} (h : 0 < n) : npl n i < n := by
  unfold npl
  split
  · omega
  · split
    · omega
    · omega

/-- The number at the nearest place. -/
def nea (n : Nat) (xs : Nat → Int) (i : Int) : Int := xs (npl n i)

theorem npl_low {n : Nat} {i : Int} (h : i < 0) : npl n i = 0 := if_pos h
theorem npl_high {n : Nat} {i : Int} (h0 : ¬ i < 0) (h : (n : Int) ≤ i) : npl n i = n - 1 := by unfold npl; rw [if_neg h0, if_pos h]
theorem npl_mid {n : Nat} {i : Int} (h0 : ¬ i < 0) (h : ¬ (n : Int) ≤ i) : npl n i = i.toNat := by unfold npl; rw [if_neg h0, if_neg h]

/-- A list that is not empty, at its nearest place. -/
theorem il_near {w : World} {b off n : Nat} {xs : Nat → Int} (h : ∀ k, k < n → w.cell? ⟨b, off + k, none⟩ = some (.int .i64 (xs k))) (hn : 0 < n) (i : Int) : w.cell? ⟨b, off + npl n i, none⟩ = some (.int .i64 (nea n xs i)) := h _ (npl_lt hn)

set_option maxHeartbeats 1000000 in
theorem sAt_any {w : World} {v : Value} {n : Nat} {xs : Nat → Int} (hv : Il w v n xs) (h0 : 0 < n) (hn : n ≤ 1048576) (i : Int) (hi : -20 ≤ i ∧ i ≤ 1048590) : Calls Try.prog 17 #[v, .int .i64 i] w fun e w' => e = .returned (.int .i64 (nea n xs i)) ∧ w' = w := by
  obtain ⟨ao, cap, rfl, hcap, hc⟩ := hv
  obtain ⟨b, off, rfl, hlt, hcell⟩ := hc h0
  have c := il_near hcell h0 i
  clear hc hcell
  generalize nea n xs i = X at c
  by_cases h1 : i < 0
  · rw [npl_low h1, Nat.add_zero] at c
    go_enter Try.func17, Try.ntmps17
    go_wp2
    go_ret
    exact ⟨rfl, rfl⟩
  · by_cases h2 : (n : Int) ≤ i
    · rw [npl_high h1 h2] at c
      go_enter Try.func17, Try.ntmps17
      go_wp2
      go_ret
      exact ⟨rfl, rfl⟩
    · rw [npl_mid h1 h2] at c
      obtain ⟨k, rfl⟩ : ∃ k : Nat, i = k := ⟨i.toNat, by omega⟩
      simp only [Int.toNat_natCast] at c
      go_enter Try.func17, Try.ntmps17
      go_wp2
      go_ret
      exact ⟨rfl, rfl⟩

set_option maxHeartbeats 1000000 in
theorem iNear_any {w : World} {v : Value} {n : Nat} {xs : Nat → Int} (hv : Il w v n xs) (h0 : 0 < n) (hn : n ≤ 1048576) (i : Int) (hi : -20 ≤ i ∧ i ≤ 1048590) : Calls Try.prog 23 #[v, .int .i64 i] w fun e w' => e = .returned (.int .i64 (nea n xs i)) ∧ w' = w := by
  obtain ⟨ao, cap, rfl, hcap, hc⟩ := hv
  obtain ⟨b, off, rfl, hlt, hcell⟩ := hc h0
  have c := il_near hcell h0 i
  clear hc hcell
  generalize nea n xs i = X at c
  by_cases h1 : i < 0
  · rw [npl_low h1, Nat.add_zero] at c
    go_enter Try.func23, Try.ntmps23
    go_wp2
    go_ret
    exact ⟨rfl, rfl⟩
  · by_cases h2 : (n : Int) ≤ i
    · rw [npl_high h1 h2] at c
      go_enter Try.func23, Try.ntmps23
      go_wp2
      go_ret
      exact ⟨rfl, rfl⟩
    · rw [npl_mid h1 h2] at c
      obtain ⟨k, rfl⟩ : ∃ k : Nat, i = k := ⟨i.toNat, by omega⟩
      simp only [Int.toNat_natCast] at c
      go_enter Try.func23, Try.ntmps23
      go_wp2
      go_ret
      exact ⟨rfl, rfl⟩
end Go.Proofs.Ytfobngpokchgeaa
