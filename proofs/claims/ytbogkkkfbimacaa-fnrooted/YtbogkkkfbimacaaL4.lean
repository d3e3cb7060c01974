/- The program's one function that goes over places: complex numbers. -/
import Derived.Test.YtbogkkkfbimacaaL2
namespace Go.Proofs.Ytbogkkkfbimacaa
open Go.RowKit

set_option maxHeartbeats 1000000 in
theorem over23_24 {w : World} {n : Nat} (hn : n ≤ 1000) (c0 c1 c2 : Value) (S1 S2 : Nat) (F : Nat → Option Nat × Option Nat) (h0 : cn S1 = (F 0).1 ∧ cn S2 = (F 0).2)
    (hst : ∀ k, k < n → ∀ S1 S2 W, Below w.heap.size w W → cn S1 = (F k).1 → cn S2 = (F k).2 → Calls Try.prog 33 #[.complex .f64 S1 S2, .int .i64 k, c0, c1, c2] W fun e w' => ∃ u1 u2, e = .returned (.complex .f64 u1 u2) ∧ cn u1 = (F (k + 1)).1 ∧ cn u2 = (F (k + 1)).2 ∧ Below W.heap.size W w') :
    Calls Try.prog 32 #[.int .i64 n, .complex .f64 S1 S2, .func (.func 33) #[] #[c0, c1, c2]] w fun e w' => ∃ u1 u2, e = .returned (.complex .f64 u1 u2) ∧ cn u1 = (F n).1 ∧ cn u2 = (F n).2 ∧ Below w.heap.size w w' := by
  have HST : Hid _ := hst
  have H0 : Hid _ := h0
  clear hst h0
  go_enter Try.func32, Try.ntmps32
  go_wp2
  go_loopw [1, 7, 9] (fun s _ i wr => ∃ k S1 S2 : Nat, i = .int .i64 k ∧ s = .complex .f64 S1 S2 ∧ k ≤ n ∧ Hid (cn S1 = (F k).1 ∧ cn S2 = (F k).2 ∧ Below w.heap.size w wr)) (fun _ _ i _ => n - (intOf i).toNat)
  case atStart => exact ⟨0, S1, S2, rfl, rfl, by omega, H0.out.1, H0.out.2, Below.refl _ _⟩
  case round =>
    obtain ⟨k, S1, S2, rfl, rfl, hk, hrel⟩ := hrel
    by_cases h1 : k < n
    · have hc := HST.out k h1 S1 S2 wr hrel.out.2.2 hrel.out.1 hrel.out.2.1
      go_wp2_with (go_at_call 33; refine hc.mono ?_; rintro e w1 ⟨u1, u2, rfl, e1, e2, hb1⟩; have E1 : Hid _ := e1; have E2 : Hid _ := e2; clear e1 e2)
      go_roundw
      case rel => exact ⟨k + 1, u1, u2, by go_num, rfl, by omega, E1.out, E2.out, bstep hrel.out.2.2 hb1⟩
      case measure => simp [intOf]; omega
    · obtain rfl : k = n := by omega
      go_wp2
      go_ret
      exact ⟨_, _, rfl, hrel.out.1, hrel.out.2.1, hrel.out.2.2⟩

end Go.Proofs.Ytbogkkkfbimacaa
