/- The greatest of a list. -/
import Derived.Test.YtnfhnchomiejcaaTP
namespace Go.Proofs.Ytnfhnchomiejcaa
open Go.RowKit

set_option maxHeartbeats 1000000 in
theorem max_any {w : World} {v : Value} {n : Nat} {f : Nat → Int} (hv : Il w v n f) (hn : 1 ≤ n ∧ n ≤ 1048576) (h0 : 0 ≤ f 0) : Calls Try.prog 53 #[v] w fun e w' => e = .returned (.int .i64 (mx f n)) ∧ w' = w := by
  obtain ⟨ao, cap, rfl, hcap, hc⟩ := hv
  have HC : Hid (∃ b off, ao = some ⟨b, off, none⟩ ∧ b < w.heap.size ∧ ∀ k, k < n → w.cell? ⟨b, off + k, none⟩ = some (.int .i64 (f k))) := hc (by omega)
  clear hc
  obtain ⟨b, off, rfl, hlt, hcell⟩ := HC.out
  have c0 := hcell 0 (by omega)
  rw [Nat.add_zero] at c0
  have HF : Hid (∀ k, k < n → w.cell? ⟨b, off + k, none⟩ = some (.int .i64 (f k))) := hcell
  have H1 : Hid (f 0 = mx f 1) := by show f 0 = (if mx f 0 < f 0 then f 0 else mx f 0); have e : mx f 0 = 0 := rfl; rw [e]; split <;> omega
  clear hcell HC
  have hd : decide ((n : Int) < 1) = false := by simp; omega
  obtain ⟨z, hz⟩ : ∃ z, z = mx f n := ⟨_, rfl⟩
  rw [← hz]
  have HZ : Hid (z = mx f n) := hz
  clear hz
  obtain ⟨y0, hy⟩ : ∃ y, y = f 0 := ⟨_, rfl⟩
  rw [← hy] at c0 H1
  clear hy h0
  go_enter Try.func53, Try.ntmps53
  go_wp2
  go_loopw [3, 4] (fun m i wr => ∃ (k : Nat) (y : Int), i = .int .i64 k ∧ m = .int .i64 y ∧ k ≤ n ∧ 1 ≤ k ∧ wr = w ∧ Hid (y = mx f k)) (fun _ i _ => n - (intOf i).toNat)
  case atStart => exact ⟨1, y0, rfl, rfl, by omega, by omega, rfl, H1.out⟩
  case round =>
    obtain ⟨k, y, rfl, rfl, hk, hk1, rfl, hy⟩ := hrel
    by_cases h1 : k < n
    · have c := HF.out k h1
      obtain ⟨x, hx⟩ : ∃ x, x = f k := ⟨_, rfl⟩
      rw [← hx] at c
      have HX : Hid (x = f k) := hx
      clear hx
      by_cases hlt2 : y < x
      · have HM : Hid (x = mx f (k + 1)) := by show x = (if mx f k < f k then f k else mx f k); rw [← hy.out, ← HX.out, if_pos hlt2]
        have em : max y x = x := by omega
        go_wp2
        go_roundw
        case rel => exact ⟨k + 1, x, by go_num, by first | rfl | (rw [em]) | (simp [em]), by omega, by omega, by trivial, HM.out⟩
        case measure => simp [intOf]; omega
      · have HM : Hid (y = mx f (k + 1)) := by show y = (if mx f k < f k then f k else mx f k); rw [← hy.out, ← HX.out, if_neg hlt2]
        have em : max y x = y := by omega
        go_wp2
        go_roundw
        case rel => exact ⟨k + 1, y, by go_num, by first | rfl | (rw [em]) | (simp [em]), by omega, by omega, by trivial, HM.out⟩
        case measure => simp [intOf]; omega
    · obtain rfl : k = n := by omega
      go_wp2
      go_ret
      exact ret1 (hy.out.trans HZ.out.symm) rfl
end Go.Proofs.Ytnfhnchomiejcaa
