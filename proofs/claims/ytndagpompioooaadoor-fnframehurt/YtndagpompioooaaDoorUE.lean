/- A reader made of bits. -/
import Derived.Test.YtndagpompioooaaDoorUD
namespace Go.Proofs.YtndagpompioooaaDoor
open Go.RowKit

theorem bits_any {w : World} {v : Value} {n : Nat} {xs : Nat → Int} (hv : Il w v n xs) (hn : n ≤ 1048576) : Calls Tryd.prog 48 #[v] w fun e w' => e = .returned (.bool (decide (∀ k, k < n → Bit (xs k)))) ∧ w' = w := by
  obtain ⟨ao, cap, rfl, hcap, hc⟩ := hv
  have HC : Hid (0 < n → ∃ b off, ao = some ⟨b, off, none⟩ ∧ b < w.heap.size ∧ ∀ k, k < n → w.cell? ⟨b, off + k, none⟩ = some (.int .i64 (xs k))) := hc
  clear hc
  obtain ⟨d, hd⟩ : ∃ d, d = decide (∀ k, k < n → Bit (xs k)) := ⟨_, rfl⟩
  rw [← hd]
  have HD : Hid _ := hd
  clear hd
  go_enter Tryd.func48, Tryd.ntmps48
  go_wp2
  go_loopw [4, 7] (fun _ i wr => ∃ k : Nat, i = .int .i64 k ∧ k ≤ n ∧ wr = w ∧ Hid (∀ j, j < k → Bit (xs j))) (fun _ i _ => n - (intOf i).toNat)
  case atStart => exact ⟨0, rfl, by omega, rfl, fun j hj => by omega⟩
  case round =>
    obtain ⟨k, rfl, hk, rfl, hal⟩ := hrel
    by_cases h1 : k < n
    · obtain ⟨b, off, rfl, hlt, hcell⟩ := HC.out (by omega)
      have c := hcell k h1
      clear hcell
      by_cases h2 : xs k = 0
      · have HS : Hid (Bit (xs k)) := Or.inl h2
        rw [h2] at c
        clear h2
        go_wp2
        go_roundw
        case rel =>
          refine ⟨k + 1, by go_num, by omega, by trivial, fun j hj => ?_⟩
          by_cases hjk : j = k
          · subst hjk; exact HS.out
          · exact hal.out j (by omega)
        case measure => simp [intOf]; omega
      · by_cases h3 : xs k = 1
        · have HS : Hid (Bit (xs k)) := Or.inr h3
          rw [h3] at c
          clear h2 h3
          go_wp2
          go_roundw
          case rel =>
            refine ⟨k + 1, by go_num, by omega, by trivial, fun j hj => ?_⟩
            by_cases hjk : j = k
            · subst hjk; exact HS.out
            · exact hal.out j (by omega)
          case measure => simp [intOf]; omega
        · have HS : Hid (¬ Bit (xs k)) := fun h => h.elim h2 h3
          obtain ⟨x, hx⟩ : ∃ x, x = xs k := ⟨_, rfl⟩
          rw [← hx] at c h2 h3
          have h4 : (x != 0) = true := by simp [h2]
          have h5 : (x != 1) = true := by simp [h3]
          clear hx
          go_wp2
          go_ret
          exact ⟨congrArg (fun z => Ending.returned (.bool z)) (by rw [HD.out]; exact (decide_eq_false (fun h => HS.out (h k h1))).symm), rfl⟩
    · obtain rfl : k = n := by omega
      go_wp2
      go_ret
      exact ⟨congrArg (fun z => Ending.returned (.bool z)) (by rw [HD.out]; exact (decide_eq_true hal.out).symm), rfl⟩

theorem reader_any {w : World} {v : Value} {n : Nat} {b : Nat → Int} (hv : Il w v n b) (_ : n ≤ 1048576) : Calls Tryd.prog 49 #[v] w fun e w' => e = .returned (.pointer (some ⟨w.heap.size + 1, 0, none⟩)) ∧ Rdr w' (w.heap.size + 1) w.heap.size v n 0 b ∧ Below w.heap.size w w' ∧ w'.heap.size = w.heap.size + 2 := by
  have hmf : ∀ (fn : Fn) (first cap : Array Value) (w : World), (Instr.makeFunc fn first cap).run Tryd.prog w = .ok (.func fn first cap) w := fun _ _ _ _ => rfl
  have HV : Hid (Il w v n b) := hv
  obtain ⟨ao, cap, rfl, hcap, hc⟩ := hv
  clear hc
  go_enter Tryd.func49, Tryd.ntmps49
  go_wp2
  go_ret
  refine ⟨rfl, ?_, bstep (below_one _ _) (below_one _ _), by simp⟩
  have hs : (w.alloc (.cells #[.slice ao n cap] 24)).heap.size = w.heap.size + 1 := Array.size_push _
  have hil := (HV.out.below (below_one w (.cells #[.slice ao n cap] 24))).below (below_one _ (.cells #[.func (.func 74) #[] #[.pointer (some ⟨w.heap.size, 0, none⟩)], .int .i64 (n : Int), .int .i64 0] 69))
  refine ⟨by simp, by simp, by simp, by simp, by simp, by omega, _, _, rfl, hcap, fun h0 => ?_⟩
  obtain ⟨_, _, e, _, h9⟩ := HV.out
  injection e with e1 e2 e3
  subst e1
  obtain ⟨bb, off, f1, f2, f3⟩ := h9 h0
  refine ⟨bb, off, f1, by omega, fun k hk => ?_⟩
  exact ((bstep (below_one w _) (below_one _ _)).cell (p := ⟨bb, off + k, none⟩) f2).trans (f3 k hk)
end Go.Proofs.YtndagpompioooaaDoor
