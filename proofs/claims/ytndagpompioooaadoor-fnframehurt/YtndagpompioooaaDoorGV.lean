/- What foretells: both sides. -/
import Derived.Test.YtndagpompioooaaDoorGU
import Derived.Test.YtndagpompioooaaDoorAP
import Derived.Test.YtndagpompioooaaDoorMK
import Derived.BigQuiet
import Derived.RegionTactic
namespace Go.Proofs.YtndagpompioooaaDoor
open Go.RowKit

set_option maxRecDepth 20000 in
set_option maxHeartbeats 4000000 in
theorem iFore_any {w : World} {v : Value} {k : Nat} {xs : Nat → Int} (hv : Il w v k xs) (hs : ∀ j, j < k → Smp (xs j)) (hk : k ≤ 512) {o : Nat} (ho : o ≤ 3) : Calls Tryd.prog 92 #[.int .i64 (o : Int), v] w fun e w' => e = .returned (.int .i64 (fore o xs k)) ∧ Below w.heap.size w w' := by
  obtain ⟨ao, cap, rfl, hcap, hc⟩ := hv
  by_cases h0 : o = 0 ∨ k = 0
  · rw [fore_0 h0]
    clear hc hs
    by_cases ho0 : o = 0
    · subst ho0
      go_enter Tryd.func92, Tryd.ntmps92
      go_wp2
      go_ret
      exact ⟨rfl, Below.refl _ _⟩
    · obtain rfl : k = 0 := by omega
      rcases (show o = 1 ∨ o = 2 ∨ o = 3 by omega) with rfl | rfl | rfl
      · go_enter Tryd.func92, Tryd.ntmps92
        go_wp2
        go_ret
        exact ⟨rfl, Below.refl _ _⟩
      · go_enter Tryd.func92, Tryd.ntmps92
        go_wp2
        go_ret
        exact ⟨rfl, Below.refl _ _⟩
      · go_enter Tryd.func92, Tryd.ntmps92
        go_wp2
        go_ret
        exact ⟨rfl, Below.refl _ _⟩
  · rcases (show min o k = 1 ∨ min o k = 2 ∨ min o k = 3 by omega) with h1 | h1 | h1
    · obtain ⟨j, rfl⟩ : ∃ j, k = j + 1 := ⟨k - 1, by omega⟩
      by_cases h2 : o = 1
      · subst h2
        obtain ⟨b, off, rfl, hlt, hcell⟩ := hc (by omega)
        have c0 := hcell j (by omega)
        have s0 := hs j (by omega)
        rw [fore_1 (by omega)]
        clear hcell hs hc
        generalize xs j = x0 at *
        go_enter Tryd.func92, Tryd.ntmps92
        go_wp2
        go_ret
        exact ⟨rfl, Below.refl _ _⟩
      · obtain rfl : j = 0 := by omega
        rcases (show o = 2 ∨ o = 3 by omega) with rfl | rfl
        · obtain ⟨b, off, rfl, hlt, hcell⟩ := hc (by omega)
          have c0 : w.cell? ⟨b, off, none⟩ = some (.int .i64 (xs 0)) := hcell 0 (by omega)
          have s0 := hs 0 (by omega)
          rw [show fore 2 xs (0 + 1) = xs 0 from fore_1 (k := 0) (by omega)]
          clear hcell hs hc
          generalize xs 0 = x0 at *
          simp only [Nat.zero_add] at *
          go_enter Tryd.func92, Tryd.ntmps92
          go_wp2
          go_ret
          exact ⟨rfl, Below.refl _ _⟩
        · obtain ⟨b, off, rfl, hlt, hcell⟩ := hc (by omega)
          have c0 : w.cell? ⟨b, off, none⟩ = some (.int .i64 (xs 0)) := hcell 0 (by omega)
          have s0 := hs 0 (by omega)
          rw [show fore 3 xs (0 + 1) = xs 0 from fore_1 (k := 0) (by omega)]
          clear hcell hs hc
          generalize xs 0 = x0 at *
          simp only [Nat.zero_add] at *
          go_enter Tryd.func92, Tryd.ntmps92
          go_wp2
          go_ret
          exact ⟨rfl, Below.refl _ _⟩
    · obtain ⟨j, rfl⟩ : ∃ j, k = j + 2 := ⟨k - 2, by omega⟩
      by_cases h2 : o = 2
      · subst h2
        obtain ⟨b, off, rfl, hlt, hcell⟩ := hc (by omega)
        have c0 := hcell j (by omega)
        have s0 := hs j (by omega)
        have c1 := hcell (j + 1) (by omega)
        have s1 := hs (j + 1) (by omega)
        rw [fore_2 (by omega)]
        clear hcell hs hc
        generalize xs j = x0 at *
        generalize xs (j + 1) = x1 at *
        go_enter Tryd.func92, Tryd.ntmps92
        go_wp2_with (first | (go_quiet (fail)))
        go_ret
        exact ⟨rfl, below_drewN (Below.refl _ _) _⟩
      · obtain rfl : j = 0 := by omega
        obtain rfl : o = 3 := by omega
        obtain ⟨b, off, rfl, hlt, hcell⟩ := hc (by omega)
        have c0 : w.cell? ⟨b, off, none⟩ = some (.int .i64 (xs 0)) := hcell 0 (by omega)
        have s0 := hs 0 (by omega)
        have c1 : w.cell? ⟨b, off + 1, none⟩ = some (.int .i64 (xs 1)) := hcell 1 (by omega)
        have s1 := hs 1 (by omega)
        rw [show fore 3 xs (0 + 2) = 2 * xs 1 - xs 0 from fore_2 (k := 0) (by omega)]
        clear hcell hs hc
        generalize xs 0 = x0 at *
        generalize xs 1 = x1 at *
        simp only [Nat.zero_add] at *
        go_enter Tryd.func92, Tryd.ntmps92
        go_wp2_with (first | (go_quiet (fail)))
        go_ret
        exact ⟨rfl, below_drewN (Below.refl _ _) _⟩
    · obtain ⟨j, rfl⟩ : ∃ j, k = j + 3 := ⟨k - 3, by omega⟩
      by_cases h2 : o = 3
      · subst h2
        obtain ⟨b, off, rfl, hlt, hcell⟩ := hc (by omega)
        have c0 := hcell j (by omega)
        have s0 := hs j (by omega)
        have c1 := hcell (j + 1) (by omega)
        have s1 := hs (j + 1) (by omega)
        have c2 := hcell (j + 2) (by omega)
        have s2 := hs (j + 2) (by omega)
        rw [fore_3 (by omega)]
        clear hcell hs hc
        generalize xs j = x0 at *
        generalize xs (j + 1) = x1 at *
        generalize xs (j + 2) = x2 at *
        go_enter Tryd.func92, Tryd.ntmps92
        go_wp2_with (first | (go_quiet (fail)))
        go_ret
        exact ⟨rfl, below_drewN (Below.refl _ _) _⟩
      · omega

set_option maxRecDepth 20000 in
set_option maxHeartbeats 4000000 in
theorem sFore_any {w : World} {v : Value} {n k : Nat} {xs : Nat → Int} (hv : Il w v n xs) (hs : ∀ j, j < k → Smp (xs j)) (hk : k ≤ 512) (hkn : k ≤ n) {o : Nat} (ho : o ≤ 3) : Calls Tryd.prog 83 #[.int .i64 (o : Int), v, .int .i64 (k : Int)] w fun e w' => e = .returned (.int .i64 (fore o xs k)) ∧ Below w.heap.size w w' := by
  obtain ⟨ao, cap, rfl, hcap, hc⟩ := hv
  by_cases h0 : o = 0 ∨ k = 0
  · rw [fore_0 h0]
    clear hc hs
    by_cases ho0 : o = 0
    · subst ho0
      go_enter Tryd.func83, Tryd.ntmps83
      go_wp2
      go_ret
      exact ⟨rfl, Below.refl _ _⟩
    · obtain rfl : k = 0 := by omega
      rcases (show o = 1 ∨ o = 2 ∨ o = 3 by omega) with rfl | rfl | rfl
      · go_enter Tryd.func83, Tryd.ntmps83
        go_wp2
        go_ret
        exact ⟨rfl, Below.refl _ _⟩
      · go_enter Tryd.func83, Tryd.ntmps83
        go_wp2
        go_ret
        exact ⟨rfl, Below.refl _ _⟩
      · go_enter Tryd.func83, Tryd.ntmps83
        go_wp2
        go_ret
        exact ⟨rfl, Below.refl _ _⟩
  · rcases (show min o k = 1 ∨ min o k = 2 ∨ min o k = 3 by omega) with h1 | h1 | h1
    · obtain ⟨j, rfl⟩ : ∃ j, k = j + 1 := ⟨k - 1, by omega⟩
      by_cases h2 : o = 1
      · subst h2
        obtain ⟨b, off, rfl, hlt, hcell⟩ := hc (by omega)
        have c0 := hcell j (by omega)
        have s0 := hs j (by omega)
        rw [fore_1 (by omega)]
        clear hcell hs hc
        generalize xs j = x0 at *
        go_enter Tryd.func83, Tryd.ntmps83
        go_wp2
        go_ret
        exact ⟨rfl, Below.refl _ _⟩
      · obtain rfl : j = 0 := by omega
        rcases (show o = 2 ∨ o = 3 by omega) with rfl | rfl
        · obtain ⟨b, off, rfl, hlt, hcell⟩ := hc (by omega)
          have c0 : w.cell? ⟨b, off, none⟩ = some (.int .i64 (xs 0)) := hcell 0 (by omega)
          have s0 := hs 0 (by omega)
          rw [show fore 2 xs (0 + 1) = xs 0 from fore_1 (k := 0) (by omega)]
          clear hcell hs hc
          generalize xs 0 = x0 at *
          simp only [Nat.zero_add] at *
          go_enter Tryd.func83, Tryd.ntmps83
          go_wp2
          go_ret
          exact ⟨rfl, Below.refl _ _⟩
        · obtain ⟨b, off, rfl, hlt, hcell⟩ := hc (by omega)
          have c0 : w.cell? ⟨b, off, none⟩ = some (.int .i64 (xs 0)) := hcell 0 (by omega)
          have s0 := hs 0 (by omega)
          rw [show fore 3 xs (0 + 1) = xs 0 from fore_1 (k := 0) (by omega)]
          clear hcell hs hc
          generalize xs 0 = x0 at *
          simp only [Nat.zero_add] at *
          go_enter Tryd.func83, Tryd.ntmps83
          go_wp2
          go_ret
          exact ⟨rfl, Below.refl _ _⟩
    · obtain ⟨j, rfl⟩ : ∃ j, k = j + 2 := ⟨k - 2, by omega⟩
      by_cases h2 : o = 2
      · subst h2
        obtain ⟨b, off, rfl, hlt, hcell⟩ := hc (by omega)
        have c0 := hcell j (by omega)
        have s0 := hs j (by omega)
        have c1 := hcell (j + 1) (by omega)
        have s1 := hs (j + 1) (by omega)
        rw [fore_2 (by omega)]
        clear hcell hs hc
        generalize xs j = x0 at *
        generalize xs (j + 1) = x1 at *
        go_enter Tryd.func83, Tryd.ntmps83
        go_wp2_with (first | (go_quiet (fail)))
        go_ret
        exact ⟨rfl, below_drewN (Below.refl _ _) _⟩
      · obtain rfl : j = 0 := by omega
        obtain rfl : o = 3 := by omega
        obtain ⟨b, off, rfl, hlt, hcell⟩ := hc (by omega)
        have c0 : w.cell? ⟨b, off, none⟩ = some (.int .i64 (xs 0)) := hcell 0 (by omega)
        have s0 := hs 0 (by omega)
        have c1 : w.cell? ⟨b, off + 1, none⟩ = some (.int .i64 (xs 1)) := hcell 1 (by omega)
        have s1 := hs 1 (by omega)
        rw [show fore 3 xs (0 + 2) = 2 * xs 1 - xs 0 from fore_2 (k := 0) (by omega)]
        clear hcell hs hc
        generalize xs 0 = x0 at *
        generalize xs 1 = x1 at *
        simp only [Nat.zero_add] at *
        go_enter Tryd.func83, Tryd.ntmps83
        go_wp2_with (first | (go_quiet (fail)))
        go_ret
        exact ⟨rfl, below_drewN (Below.refl _ _) _⟩
    · obtain ⟨j, rfl⟩ : ∃ j, k = j + 3 := ⟨k - 3, by omega⟩
      by_cases h2 : o = 3
      · subst h2
        obtain ⟨b, off, rfl, hlt, hcell⟩ := hc (by omega)
        have c0 := hcell j (by omega)
        have s0 := hs j (by omega)
        have c1 := hcell (j + 1) (by omega)
        have s1 := hs (j + 1) (by omega)
        have c2 := hcell (j + 2) (by omega)
        have s2 := hs (j + 2) (by omega)
        rw [fore_3 (by omega)]
        clear hcell hs hc
        generalize xs j = x0 at *
        generalize xs (j + 1) = x1 at *
        generalize xs (j + 2) = x2 at *
        go_enter Tryd.func83, Tryd.ntmps83
        go_wp2_with (first | (go_quiet (fail)))
        go_ret
        exact ⟨rfl, below_drewN (Below.refl _ _) _⟩
      · omega
end Go.Proofs.YtndagpompioooaaDoor
