/- LiftBack: both sides. -/
import Derived.Test.YtncmejmdkonnpaaBS
import Derived.Test.YtncmejmdkonnpaaBB
import Derived.Test.YtncmejmdkonnpaaBC
import Derived.Test.YtncmejmdkonnpaaLJ
namespace Go.Proofs.Ytncmejmdkonnpaa
open Go.RowKit

theorem iBack_any {w : World} {v1 v2 : Value} {n m : Nat} {lo hs : Nat → Int} {kind M : Int} (hk : Knd kind) (hv1 : Il w v1 n lo) (hv2 : Il w v2 m hs) (hmn : m ≤ n) (hnm : n ≤ m + 1) (hn : n + m ≤ 1048576) (hM4 : 4 ≤ M) (hM : M ≤ 1000000000000000) (hl : Wth M n lo) (hh : Wth M m hs) :
    Calls Try.prog 25 #[.int .i64 kind, v1, v2] w fun e w' => P1 w w' e (n + m) (bck kind n m lo hs) := by
  have hcases : kind = 1 ∨ kind = 2 ∨ kind = 3 := by omega
  rcases hcases with rfl | rfl | rfl
  · exact iBack_1 hv1 hv2 hmn hnm hn hM4 hM hl hh
  · exact iBack_2 hv1 hv2 hmn hnm hn hM4 hM hl hh
  · exact iBack_3 hv1 hv2 hmn hnm hn hM4 hM hl hh

theorem iLft_any (x : Int) (w : World) : Calls Try.prog 22 #[.int .i64 x] w fun e w' => e = .returned (.bool (decide (-8000000000 ≤ x ∧ x ≤ 8000000000))) ∧ w' = w := by
  go_enter Try.func22, Try.ntmps22
  by_cases h : -8000000000 ≤ x
  · by_cases h1 : x ≤ 8000000000
    · go_wp2
      go_ret
      exact ⟨by simp [h, h1], rfl⟩
    · go_wp2
      go_ret
      exact ⟨by simp [h1], rfl⟩
  · go_wp2
    go_ret
    exact ⟨by simp; omega, rfl⟩

set_option maxHeartbeats 1000000 in
theorem sWide_any {w : World} {v : Value} {n : Nat} {xs : Nat → Int} (hv : Il w v n xs) (hn : n ≤ 1048576) : Calls Try.prog 11 #[v, .int .i64 8000000000] w fun e w' => e = .returned (.bool (decide (Wth 8000000000 n xs))) ∧ w' = w := by
  obtain ⟨ao, cap, rfl, hcap, hc⟩ := hv
  have HC : Hid (0 < n → ∃ b off, ao = some ⟨b, off, none⟩ ∧ b < w.heap.size ∧ ∀ k, k < n → w.cell? ⟨b, off + k, none⟩ = some (.int .i64 (xs k))) := hc
  clear hc
  obtain ⟨d, hd⟩ : ∃ d, d = decide (Wth 8000000000 n xs) := ⟨_, rfl⟩
  rw [← hd]
  have HD : Hid _ := hd
  clear hd
  go_enter Try.func11, Try.ntmps11
  go_wp2
  go_loopw [5] (fun i wr => ∃ k : Nat, i = .int .i64 k ∧ k ≤ n ∧ wr = w ∧ Hid (∀ j, j < k → -8000000000 ≤ xs j ∧ xs j ≤ 8000000000)) (fun i _ => n - (intOf i).toNat)
  case atStart => exact ⟨0, rfl, by omega, rfl, fun j hj => by omega⟩
  case round =>
    obtain ⟨k, rfl, hk, rfl, hal⟩ := hrel
    by_cases h1 : k < n
    · obtain ⟨b, off, rfl, hlt, hcell⟩ := HC.out (by omega)
      have c := hcell k h1
      clear hcell
      have i1 := in_any (xs k) (-8000000000) 8000000000
      by_cases hs : -8000000000 ≤ xs k ∧ xs k ≤ 8000000000
      · have HS : Hid _ := hs
        rw [decide_eq_true hs] at i1
        clear hs
        go_wp2_with (first | (go_at_call 12; (with_reducible refine (i1 _).mono ?_); rintro e w' ⟨rfl, hw⟩; obtain rfl := hw.symm))
        go_roundw
        case rel =>
          refine ⟨k + 1, by go_num, by omega, by trivial, fun j hj => ?_⟩
          by_cases hjk : j = k
          · subst hjk; exact HS.out
          · exact hal.out j (by omega)
        case measure => simp [intOf]; omega
      · have HS : Hid _ := hs
        rw [decide_eq_false hs] at i1
        clear hs
        go_wp2_with (first | (go_at_call 12; (with_reducible refine (i1 _).mono ?_); rintro e w' ⟨rfl, hw⟩; obtain rfl := hw.symm))
        go_ret
        exact ⟨congrArg (fun z => Ending.returned (.bool z)) (by rw [HD.out]; exact (decide_eq_false (fun h => HS.out (h k h1))).symm), rfl⟩
    · obtain rfl : k = n := by omega
      go_wp2
      go_ret
      exact ⟨congrArg (fun z => Ending.returned (.bool z)) (by rw [HD.out]; exact (decide_eq_true hal.out).symm), rfl⟩

set_option maxHeartbeats 1000000 in
theorem iWide_any {w : World} {v : Value} {n : Nat} {xs : Nat → Int} (hv : Il w v n xs) (hn : n ≤ 1048576) : Calls Try.prog 15 #[v] w fun e w' => e = .returned (.bool (decide (Wth 8000000000 n xs))) ∧ w' = w := by
  obtain ⟨ao, cap, rfl, hcap, hc⟩ := hv
  have HC : Hid (0 < n → ∃ b off, ao = some ⟨b, off, none⟩ ∧ b < w.heap.size ∧ ∀ k, k < n → w.cell? ⟨b, off + k, none⟩ = some (.int .i64 (xs k))) := hc
  clear hc
  obtain ⟨d, hd⟩ : ∃ d, d = decide (Wth 8000000000 n xs) := ⟨_, rfl⟩
  rw [← hd]
  have HD : Hid _ := hd
  clear hd
  go_enter Try.func15, Try.ntmps15
  go_wp2
  go_loopw [4, 7] (fun _ i wr => ∃ k : Nat, i = .int .i64 k ∧ k ≤ n ∧ wr = w ∧ Hid (∀ j, j < k → -8000000000 ≤ xs j ∧ xs j ≤ 8000000000)) (fun _ i _ => n - (intOf i).toNat)
  case atStart => exact ⟨0, rfl, by omega, rfl, fun j hj => by omega⟩
  case round =>
    obtain ⟨k, rfl, hk, rfl, hal⟩ := hrel
    by_cases h1 : k < n
    · obtain ⟨b, off, rfl, hlt, hcell⟩ := HC.out (by omega)
      have c := hcell k h1
      clear hcell
      have i1 := iLft_any (xs k)
      by_cases hs : -8000000000 ≤ xs k ∧ xs k ≤ 8000000000
      · have HS : Hid _ := hs
        rw [decide_eq_true hs] at i1
        clear hs
        go_wp2_with (first | (go_at_call 22; (with_reducible refine (i1 _).mono ?_); rintro e w' ⟨rfl, hw⟩; obtain rfl := hw.symm))
        go_roundw
        case rel =>
          refine ⟨k + 1, by go_num, by omega, by trivial, fun j hj => ?_⟩
          by_cases hjk : j = k
          · subst hjk; exact HS.out
          · exact hal.out j (by omega)
        case measure => simp [intOf]; omega
      · have HS : Hid _ := hs
        rw [decide_eq_false hs] at i1
        clear hs
        go_wp2_with (first | (go_at_call 22; (with_reducible refine (i1 _).mono ?_); rintro e w' ⟨rfl, hw⟩; obtain rfl := hw.symm))
        go_ret
        exact ⟨congrArg (fun z => Ending.returned (.bool z)) (by rw [HD.out]; exact (decide_eq_false (fun h => HS.out (h k h1))).symm), rfl⟩
    · obtain rfl : k = n := by omega
      go_wp2
      go_ret
      exact ⟨congrArg (fun z => Ending.returned (.bool z)) (by rw [HD.out]; exact (decide_eq_true hal.out).symm), rfl⟩

/-- Good for LiftBack. -/
structure Gb (kind : Int) (n m : Nat) (lo hs : Nat → Int) : Prop where
  k : Knd kind
  mn : m ≤ n
  nm : n ≤ m + 1
  s : n + m ≤ 512
  l : Wth 8000000000 n lo
  h : Wth 8000000000 m hs

end Go.Proofs.Ytncmejmdkonnpaa
