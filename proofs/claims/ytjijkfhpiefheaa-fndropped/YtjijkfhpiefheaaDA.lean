/- Ticks. -/
import Derived.Test.YtjijkfhpiefheaaC1
import Derived.WalkKit
import Derived.WalkSpells
import Derived.WalkLawsBesides
import Derived.Deep.QuietTactic
import Derived.BigQuiet
import Derived.BigRegion
import Derived.Deep.Cut
namespace Go.Proofs.Ytjijkfhpiefheaa
open Go.RowKit

theorem upto_any (x m : Int) (w : World) : Calls Try.prog 21 #[.int .i64 x, .int .i64 m] w fun e w' => e = .returned (.bool (decide (0 ≤ x ∧ x ≤ m))) ∧ w' = w := by
  go_enter Try.func21, Try.ntmps21
  by_cases h : 0 ≤ x
  · by_cases h1 : x ≤ m
    · go_wp2
      go_ret
      exact ⟨by simp [h, h1], rfl⟩
    · go_wp2
      go_ret
      exact ⟨by simp [h1], rfl⟩
  · go_wp2
    go_ret
    exact ⟨by simp; omega, rfl⟩

theorem count_any (x m : Int) (w : World) : Calls Try.prog 15 #[.int .i64 x, .int .i64 m] w fun e w' => e = .returned (.bool (decide (1 ≤ x ∧ x ≤ m))) ∧ w' = w := by
  go_enter Try.func15, Try.ntmps15
  by_cases h : 1 ≤ x
  · by_cases h1 : x ≤ m
    · go_wp2
      go_ret
      exact ⟨by simp [h, h1], rfl⟩
    · go_wp2
      go_ret
      exact ⟨by simp [h1], rfl⟩
  · go_wp2
    go_ret
    exact ⟨by simp; omega, rfl⟩

/-- Numbers of a tick. -/
def Tk (x : Int) : Prop := 0 ≤ x ∧ x ≤ 1000
instance (x : Int) : Decidable (Tk x) := by unfold Tk; infer_instance

theorem tick_any (x : Int) (w : World) : Calls Try.prog 20 #[.int .i64 x] w fun e w' => e = .returned (.bool (!decide (Tk x))) ∧ w' = w := by
  obtain ⟨d, hd⟩ : ∃ d, d = decide (Tk x) := ⟨_, rfl⟩
  have i1 : Calls Try.prog 21 #[.int .i64 x, .int .i64 1000] w fun e w' => e = .returned (.bool d) ∧ w' = w := by rw [hd]; exact upto_any x 1000 w
  rw [← hd]
  clear hd
  go_enter Try.func20, Try.ntmps20
  go_wp2_with (go_at_call 21; (with_reducible refine (i1).mono ?_); rintro e w' ⟨rfl, hw⟩; obtain rfl := hw.symm)
  go_ret
  exact ⟨rfl, rfl⟩

theorem tk_more {xs : Nat → Int} {k : Nat} (h : ∀ j, j < k → Tk (xs j)) (h2 : Tk (xs k)) : ∀ j, j < k + 1 → Tk (xs j) := by
  intro j hj
  rcases Nat.lt_or_ge j k with h1 | h1
  · exact h j h1
  · obtain rfl : j = k := by omega
    exact h2

/-- The first number that is none of a tick, or -1. -/
def FirstNo (n : Nat) (xs : Nat → Int) (j : Int) : Prop := (∀ k, k < n → Tk (xs k)) ∧ j = -1 ∨ ∃ k : Nat, j = k ∧ k < n ∧ ¬ Tk (xs k)

set_option maxHeartbeats 2000000 in
theorem ixf_any {w : World} {v : Value} {n : Nat} {xs : Nat → Int} (hv : Il w v n xs) (hn : n ≤ 512) :
    Calls Try.prog 22 #[v, (.func (.func 20) #[] #[])] w fun e w' => ∃ j, e = .returned (.int .i64 j) ∧ FirstNo n xs j ∧ Below w.heap.size w w' := by
  obtain ⟨ao, cap, rfl, hcap, hc⟩ := hv
  have HC : Hid (0 < n → ∃ b off, ao = some ⟨b, off, none⟩ ∧ b < w.heap.size ∧ ∀ k, k < n → w.cell? ⟨b, off + k, none⟩ = some (.int .i64 (xs k))) := hc
  clear hc
  go_enter Try.func22, Try.ntmps22
  go_wp2
  go_loopw [8] (fun i wr => ∃ k : Nat, i = .int .i64 k ∧ k ≤ n ∧ Hid (∀ j, j < k → Tk (xs j)) ∧ Hid (Below w.heap.size w wr)) (fun i _ => n - (intOf i).toNat)
  case atStart => exact ⟨0, rfl, by omega, fun j hj => absurd hj (by omega), Below.refl _ _⟩
  case round =>
    obtain ⟨k, rfl, hk, hall, hbl⟩ := hrel
    by_cases h1 : k < n
    · obtain ⟨b, off, rfl, hlt, hcell⟩ := HC.out (by omega)
      have c1 : wr.cell? ⟨b, off + k, none⟩ = some (.int .i64 (xs k)) := (hbl.out.cell (p := ⟨b, off + k, none⟩) hlt).trans (hcell k h1)
      clear hcell
      have tk := tick_any (xs k) wr
      by_cases h2 : Tk (xs k)
      · rw [show (!decide (Tk (xs k))) = false by simp [h2]] at tk
        go_wp2_with (go_at_call 20; (with_reducible refine (tk).mono ?_); rintro e w' ⟨rfl, hw⟩; obtain rfl := hw.symm)
        go_roundw
        case rel => exact ⟨k + 1, by go_num, by omega, tk_more hall.out h2, hbl.out⟩
        case measure => simp [intOf]; omega
      · rw [show (!decide (Tk (xs k))) = true by simp [h2]] at tk
        go_wp2_with (go_at_call 20; (with_reducible refine (tk).mono ?_); rintro e w' ⟨rfl, hw⟩; obtain rfl := hw.symm)
        go_ret
        exact ⟨_, rfl, .inr ⟨k, rfl, h1, h2⟩, hbl.out⟩
    · obtain rfl : k = n := by omega
      go_wp2
      go_ret
      exact ⟨_, rfl, .inl ⟨hall.out, rfl⟩, hbl.out⟩

theorem cf_any {w : World} {v : Value} {n : Nat} {xs : Nat → Int} (hv : Il w v n xs) (hn : n ≤ 512) (d : Bool) (hd : d = decide (¬ ∀ k, k < n → Tk (xs k))) :
    Calls Try.prog 19 #[v, (.func (.func 20) #[] #[])] w fun e w' => e = .returned (.bool d) ∧ Below w.heap.size w w' := by
  have HI : Hid (Il w v n xs) := hv
  have HD : Hid (d = decide (¬ ∀ k, k < n → Tk (xs k))) := hd
  clear hv hd
  go_enter Try.func19, Try.ntmps19
  go_wp2_with (go_at_call 22; (with_reducible refine (ixf_any HI.out hn).mono ?_); rintro e w' ⟨j, rfl, hj, hb⟩; have hj0 : -1 ≤ j ∧ j ≤ 512 := by (rcases hj with ⟨_, rfl⟩ | ⟨k, rfl, hk, _⟩ <;> omega))
  go_ret
  refine ⟨?_, hb⟩
  rw [HD.out]
  rcases hj with ⟨hj, rfl⟩ | ⟨k, rfl, hk, hk2⟩
  · rw [show decide (¬ ∀ k, k < n → Tk (xs k)) = false from decide_eq_false (fun h => h hj)]; rfl
  · rw [show decide (¬ ∀ k, k < n → Tk (xs k)) = true from decide_eq_true (fun h => hk2 (h k hk))]; simp

/-- A list of ticks. -/
def Tks (n : Nat) (xs : Nat → Int) : Prop := n ≤ 512 ∧ ∀ k, k < n → Tk (xs k)
instance (n : Nat) (xs : Nat → Int) : Decidable (Tks n xs) := by unfold Tks; infer_instance

theorem ticks_any {w : World} {v : Value} {n : Nat} {xs : Nat → Int} (hv : Il w v n xs) (hn : n ≤ 1048576) (d : Bool) (hd : d = decide (Tks n xs)) :
    Calls Try.prog 16 #[v] w fun e w' => e = .returned (.bool d) ∧ Below w.heap.size w w' := by
  have HI : Hid (Il w v n xs) := hv
  have HD : Hid (d = decide (Tks n xs)) := hd
  obtain ⟨ao, cap, rfl, hcap, hc⟩ := hv
  clear hc hd
  by_cases h : n ≤ 512
  · obtain ⟨c, hcd⟩ : ∃ c, Hid (c = decide (¬ ∀ k, k < n → Tk (xs k))) := ⟨_, rfl⟩
    go_enter Try.func16, Try.ntmps16
    go_wp2_with (go_at_call 19; (with_reducible refine (cf_any HI.out h c hcd.out).mono ?_); rintro e w' ⟨rfl, hb⟩)
    go_ret
    refine ⟨?_, hb⟩
    rw [HD.out]
    have hc := hcd.out
    by_cases h2 : ∀ k, k < n → Tk (xs k)
    · rw [show decide (Tks n xs) = true from decide_eq_true ⟨h, h2⟩, show c = false by rw [hc]; exact decide_eq_false (fun h => h h2)]; rfl
    · rw [show decide (Tks n xs) = false from decide_eq_false (fun h => h2 h.2), show c = true by rw [hc]; exact decide_eq_true h2]; rfl
  · go_enter Try.func16, Try.ntmps16
    go_wp2
    go_ret
    exact ⟨by rw [HD.out, show decide (Tks n xs) = false from decide_eq_false (fun x => h x.1)]; rfl, Below.refl _ _⟩

end Go.Proofs.Ytjijkfhpiefheaa
