/- The model's Unpack by its kind alone; the model's Compare and Next. -/
import Derived.Test.YtcpnmcfpnhokgaaDoorU3
import Derived.Test.YtcpnmcfpnhokgaaDoorW4
namespace Go.Proofs.YtcpnmcfpnhokgaaDoor
open Go.RowKit

set_option maxHeartbeats 1000000 in
theorem scompare_any (f x y a b r : Int) (w : World)
    (hx : ∀ w, Calls Tryd.prog 12 #[.int .i64 f, .int .u64 x] w fun e w' => ∃ (n : Bool) (u m : Int), e = .returned (.agg #[.int .i64 a, .bool n, .int .i64 u, .int .u64 m]) ∧ Below w.heap.size w w')
    (hy : ∀ w, Calls Tryd.prog 12 #[.int .i64 f, .int .u64 y] w fun e w' => ∃ (n : Bool) (u m : Int), e = .returned (.agg #[.int .i64 b, .bool n, .int .i64 u, .int .u64 m]) ∧ Below w.heap.size w w')
    (ho : ∀ w, Calls Tryd.prog 50 #[.int .i64 f, .int .u64 x, .int .u64 y] w fun e w' => e = .returned (.int .i64 r) ∧ w' = w) :
    Calls Tryd.prog 21 #[.int .i64 f, .int .u64 x, .int .u64 y] w fun e w' => e = .returned (.int .i64 (if 3 ≤ a ∨ 3 ≤ b then 2 else if a = 0 ∧ b = 0 then 0 else r)) ∧ Below w.heap.size w w' := by
  by_cases ha : 3 ≤ a
  · rw [if_pos (Or.inl ha)]
    go_enter Tryd.func21, Tryd.ntmps21
    go_wp2_with (first | (go_at_call 12; (first | with_reducible refine (hx _).mono ?_ | with_reducible refine (hy _).mono ?_); rintro e w' ⟨n, u, m, rfl, hb⟩; obtain ⟨hc, hf⟩ := bcell hb) | (go_at_call 50; refine (ho _).mono ?_; rintro e w' ⟨rfl, rfl⟩))
    go_ret
    exact ⟨rfl, below_22 _ _ ‹Below w.heap.size w _› hb⟩
  · by_cases hb : 3 ≤ b
    · rw [if_pos (Or.inr hb)]
      go_enter Tryd.func21, Tryd.ntmps21
      go_wp2_with (first | (go_at_call 12; (first | with_reducible refine (hx _).mono ?_ | with_reducible refine (hy _).mono ?_); rintro e w' ⟨n, u, m, rfl, hb⟩; obtain ⟨hc, hf⟩ := bcell hb) | (go_at_call 50; refine (ho _).mono ?_; rintro e w' ⟨rfl, rfl⟩))
      go_ret
      exact ⟨rfl, below_22 _ _ ‹Below w.heap.size w _› hb⟩
    · rw [if_neg (by omega)]
      by_cases ha0 : a = 0
      · have ha1 : (a == 0) = true := by simpa using ha0
        by_cases hb0 : b = 0
        · have hb1 : (b == 0) = true := by simpa using hb0
          rw [if_pos ⟨ha0, hb0⟩]
          clear ha0 hb0
          go_enter Tryd.func21, Tryd.ntmps21
          go_wp2_with (first | (go_at_call 12; (first | with_reducible refine (hx _).mono ?_ | with_reducible refine (hy _).mono ?_); rintro e w' ⟨n, u, m, rfl, hb⟩; obtain ⟨hc, hf⟩ := bcell hb) | (go_at_call 50; refine (ho _).mono ?_; rintro e w' ⟨rfl, rfl⟩))
          go_ret
          exact ⟨rfl, below_22 _ _ ‹Below w.heap.size w _› hb⟩
        · have hb1 : (b == 0) = false := by simpa using hb0
          rw [if_neg (by omega)]
          clear ha0 hb0
          go_enter Tryd.func21, Tryd.ntmps21
          go_wp2_with (first | (go_at_call 12; (first | with_reducible refine (hx _).mono ?_ | with_reducible refine (hy _).mono ?_); rintro e w' ⟨n, u, m, rfl, hb⟩; obtain ⟨hc, hf⟩ := bcell hb) | (go_at_call 50; refine (ho _).mono ?_; rintro e w' ⟨rfl, rfl⟩))
          go_ret
          exact ⟨rfl, below_22 _ _ ‹Below w.heap.size w _› hb⟩
      · have ha1 : (a == 0) = false := by simpa using ha0
        rw [if_neg (by omega)]
        clear ha0
        go_enter Tryd.func21, Tryd.ntmps21
        go_wp2_with (first | (go_at_call 12; (first | with_reducible refine (hx _).mono ?_ | with_reducible refine (hy _).mono ?_); rintro e w' ⟨n, u, m, rfl, hb⟩; obtain ⟨hc, hf⟩ := bcell hb) | (go_at_call 50; refine (ho _).mono ?_; rintro e w' ⟨rfl, rfl⟩))
        go_ret
        exact ⟨rfl, below_22 _ _ ‹Below w.heap.size w _› hb⟩

end Go.Proofs.YtcpnmcfpnhokgaaDoor
