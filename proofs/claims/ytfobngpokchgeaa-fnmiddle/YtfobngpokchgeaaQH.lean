/- Lists alike. -/
import Derived.Test.YtfobngpokchgeaaC1
import Derived.Test.YtfobngpokchgeaaWA
namespace Go.Proofs.Ytfobngpokchgeaa
open Go.RowKit

set_option maxHeartbeats 1000000 in
theorem same_yes {w : World} {u v : Value} {n : Nat} {xs ys : Nat → Int} (hu : Il w u n xs) (hv : Il w v n ys) (hn : n ≤ 1048576) (he : ∀ k, k < n → xs k = ys k) : Calls Try.prog 8 #[u, v] w fun e w' => e = .returned (.bool true) ∧ Below w.heap.size w w' := by
  obtain ⟨ao, cap, rfl, hcap, hc⟩ := hu
  obtain ⟨ao2, cap2, rfl, hcap2, hc2⟩ := hv
  have HC : Hid (0 < n → ∃ b off, ao = some ⟨b, off, none⟩ ∧ b < w.heap.size ∧ ∀ k, k < n → w.cell? ⟨b, off + k, none⟩ = some (.int .i64 (xs k))) := hc
  have HC2 : Hid (0 < n → ∃ b off, ao2 = some ⟨b, off, none⟩ ∧ b < w.heap.size ∧ ∀ k, k < n → w.cell? ⟨b, off + k, none⟩ = some (.int .i64 (ys k))) := hc2
  have HE : Hid (∀ k, k < n → xs k = ys k) := he
  clear hc hc2 he
  go_enter Try.func8, Try.ntmps8
  go_wp2
  go_loopw [5] (fun i wr => ∃ k : Nat, i = .int .i64 k ∧ k ≤ n ∧ Hid (Below w.heap.size w wr)) (fun i _ => n - (intOf i).toNat)
  case atStart => exact ⟨0, rfl, by omega, Below.refl _ _⟩
  case round =>
    obtain ⟨k, rfl, hk, hrel⟩ := hrel
    by_cases h1 : k < n
    · obtain ⟨b, off, rfl, hlt, hcell⟩ := HC.out (by omega)
      obtain ⟨b2, off2, rfl, hlt2, hcell2⟩ := HC2.out (by omega)
      have c := (hrel.out.cell (p := ⟨b, off + k, none⟩) hlt).trans (hcell k h1)
      have c2 := (hrel.out.cell (p := ⟨b2, off2 + k, none⟩) hlt2).trans (hcell2 k h1)
      rw [← HE.out k h1] at c2
      clear hcell hcell2
      go_wp2_with (go_quiet (fail))
      go_roundw
      case rel => exact ⟨k + 1, by go_num, by omega, by first | exact hrel.out | exact below_drewN hrel.out _⟩
      case measure => simp [intOf]; omega
    · obtain rfl : k = n := by omega
      go_wp2
      go_ret
      exact ⟨rfl, hrel.out⟩

end Go.Proofs.Ytfobngpokchgeaa
