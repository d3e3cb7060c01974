/- Sums in their order: the model's loop, and the program's one function that goes over places. -/
import Derived.Test.YthmaeadfaomlkaaF3
namespace Go.Proofs.Ythmaeadfaomlkaa
open Go.RowKit

set_option maxHeartbeats 1000000 in
theorem over27 {w : World} {n : Nat} (hn : n ≤ 200) (c0 : Value) (S0 : Nat) (F : Nat → Option Nat) (h0 : cn S0 = F 0)
    (hst : ∀ k, k < n → ∀ S W, Below w.heap.size w W → cn S = F k → Calls Try.prog 27 #[.float .f64 S, .int .i64 k, c0] W fun e w' => ∃ S', e = .returned (.float .f64 S') ∧ cn S' = F (k + 1) ∧ Below W.heap.size W w') :
    Calls Try.prog 26 #[.int .i64 n, .float .f64 S0, .func (.func 27) #[] #[c0]] w fun e w' => ∃ S, e = .returned (.float .f64 S) ∧ cn S = F n ∧ Below w.heap.size w w' := by
  have HST : Hid _ := hst
  have H0 : Hid _ := h0
  clear hst h0
  go_enter Try.func26, Try.ntmps26
  go_wp2
  go_loopw [1, 7, 9] (fun s _ i wr => ∃ k S : Nat, i = .int .i64 k ∧ s = .float .f64 S ∧ k ≤ n ∧ Hid (cn S = F k ∧ Below w.heap.size w wr)) (fun _ _ i _ => n - (intOf i).toNat)
  case atStart => exact ⟨0, S0, rfl, rfl, by omega, H0.out, Below.refl _ _⟩
  case round =>
    obtain ⟨k, S, rfl, rfl, hk, hrel⟩ := hrel
    by_cases h1 : k < n
    · have hc := HST.out k h1 S wr hrel.out.2 hrel.out.1
      go_wp2_with (go_at_call 27; refine hc.mono ?_; rintro e w1 ⟨S1, rfl, hS1, hb1⟩; have HS1 : Hid _ := hS1; clear hS1)
      go_roundw
      case rel => exact ⟨k + 1, S1, by go_num, rfl, by omega, HS1.out, bstep hrel.out.2 hb1⟩
      case measure => simp [intOf]; omega
    · obtain rfl : k = n := by omega
      go_wp2
      go_ret
      exact ⟨_, rfl, hrel.out.1, hrel.out.2⟩

set_option maxHeartbeats 1000000 in
theorem over31 {w : World} {n : Nat} (hn : n ≤ 200) (c0 c1 : Value) (S0 : Nat) (F : Nat → Option Nat) (h0 : cn S0 = F 0)
    (hst : ∀ k, k < n → ∀ S W, Below w.heap.size w W → cn S = F k → Calls Try.prog 31 #[.float .f64 S, .int .i64 k, c0, c1] W fun e w' => ∃ S', e = .returned (.float .f64 S') ∧ cn S' = F (k + 1) ∧ Below W.heap.size W w') :
    Calls Try.prog 26 #[.int .i64 n, .float .f64 S0, .func (.func 31) #[] #[c0, c1]] w fun e w' => ∃ S, e = .returned (.float .f64 S) ∧ cn S = F n ∧ Below w.heap.size w w' := by
  have HST : Hid _ := hst
  have H0 : Hid _ := h0
  clear hst h0
  go_enter Try.func26, Try.ntmps26
  go_wp2
  go_loopw [1, 7, 9] (fun s _ i wr => ∃ k S : Nat, i = .int .i64 k ∧ s = .float .f64 S ∧ k ≤ n ∧ Hid (cn S = F k ∧ Below w.heap.size w wr)) (fun _ _ i _ => n - (intOf i).toNat)
  case atStart => exact ⟨0, S0, rfl, rfl, by omega, H0.out, Below.refl _ _⟩
  case round =>
    obtain ⟨k, S, rfl, rfl, hk, hrel⟩ := hrel
    by_cases h1 : k < n
    · have hc := HST.out k h1 S wr hrel.out.2 hrel.out.1
      go_wp2_with (go_at_call 31; refine hc.mono ?_; rintro e w1 ⟨S1, rfl, hS1, hb1⟩; have HS1 : Hid _ := hS1; clear hS1)
      go_roundw
      case rel => exact ⟨k + 1, S1, by go_num, rfl, by omega, HS1.out, bstep hrel.out.2 hb1⟩
      case measure => simp [intOf]; omega
    · obtain rfl : k = n := by omega
      go_wp2
      go_ret
      exact ⟨_, rfl, hrel.out.1, hrel.out.2⟩

set_option maxHeartbeats 1000000 in
theorem over33 {w : World} {n : Nat} (hn : n ≤ 200) (c0 c1 c2 : Value) (S0 : Nat) (F : Nat → Option Nat) (h0 : cn S0 = F 0)
    (hst : ∀ k, k < n → ∀ S W, Below w.heap.size w W → cn S = F k → Calls Try.prog 33 #[.float .f64 S, .int .i64 k, c0, c1, c2] W fun e w' => ∃ S', e = .returned (.float .f64 S') ∧ cn S' = F (k + 1) ∧ Below W.heap.size W w') :
    Calls Try.prog 26 #[.int .i64 n, .float .f64 S0, .func (.func 33) #[] #[c0, c1, c2]] w fun e w' => ∃ S, e = .returned (.float .f64 S) ∧ cn S = F n ∧ Below w.heap.size w w' := by
  have HST : Hid _ := hst
  have H0 : Hid _ := h0
  clear hst h0
  go_enter Try.func26, Try.ntmps26
  go_wp2
  go_loopw [1, 7, 9] (fun s _ i wr => ∃ k S : Nat, i = .int .i64 k ∧ s = .float .f64 S ∧ k ≤ n ∧ Hid (cn S = F k ∧ Below w.heap.size w wr)) (fun _ _ i _ => n - (intOf i).toNat)
  case atStart => exact ⟨0, S0, rfl, rfl, by omega, H0.out, Below.refl _ _⟩
  case round =>
    obtain ⟨k, S, rfl, rfl, hk, hrel⟩ := hrel
    by_cases h1 : k < n
    · have hc := HST.out k h1 S wr hrel.out.2 hrel.out.1
      go_wp2_with (go_at_call 33; refine hc.mono ?_; rintro e w1 ⟨S1, rfl, hS1, hb1⟩; have HS1 : Hid _ := hS1; clear hS1)
      go_roundw
      case rel => exact ⟨k + 1, S1, by go_num, rfl, by omega, HS1.out, bstep hrel.out.2 hb1⟩
      case measure => simp [intOf]; omega
    · obtain rfl : k = n := by omega
      go_wp2
      go_ret
      exact ⟨_, rfl, hrel.out.1, hrel.out.2⟩
end Go.Proofs.Ythmaeadfaomlkaa
