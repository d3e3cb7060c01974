/- Convolutions: both sides, of any lists. -/
import Derived.Test.YtimjbpmppigaoaaK4
import Derived.BigRegion
namespace Go.Proofs.Ytimjbpmppigaoaa
open Go.RowKit

set_option maxHeartbeats 2000000 in
/-- Nothing is added where one list is empty. -/
theorem addP_none {w : World} {v u : Value} {na nb g : Nat} {xs ys : Nat → Int} (hv : Il w v na xs) (hu : Il w u nb ys) (hn : na ≤ 1048576) (h0 : na = 0 ∨ nb = 0) :
    Calls Try.prog 32 #[.slice (some ⟨g, 0, none⟩) 0 0, v, u] w fun e w' => e = .returned (.tuple #[]) ∧ w' = w := by
  obtain ⟨ao1, cap1, rfl, hcap1, hc1⟩ := hv
  have HC1 : Hid (0 < na → ∃ b off, ao1 = some ⟨b, off, none⟩ ∧ b < w.heap.size ∧ ∀ k, k < na → w.cell? ⟨b, off + k, none⟩ = some (.int .i64 (xs k))) := hc1
  clear hc1
  obtain ⟨ao2, cap2, rfl, hcap2, hc2⟩ := hu
  have HC2 : Hid (0 < nb → ∃ b off, ao2 = some ⟨b, off, none⟩ ∧ b < w.heap.size ∧ ∀ k, k < nb → w.cell? ⟨b, off + k, none⟩ = some (.int .i64 (ys k))) := hc2
  clear hc2

  have H0 : Hid (na = 0 ∨ nb = 0) := h0
  clear h0
  go_enter Try.func32, Try.ntmps32
  go_wp2
  go_loopw [6, 7, 8, 9, 12] (fun _ _ _ _ iv wr => ∃ i : Nat, iv = .int .i64 i ∧ i ≤ na ∧ wr = w) (fun _ _ _ _ iv _ => na - (intOf iv).toNat)
  case atStart => exact ⟨0, rfl, by omega, rfl⟩
  case round =>
    obtain ⟨i, rfl, hi, hw⟩ := hrel
    obtain rfl := hw.symm
    by_cases h1 : i < na
    · obtain ⟨b1, off1, rfl, hlt1, hcell1⟩ := HC1.out (by omega)
      have c1 := hcell1 i h1
      clear hcell1 hlt1
      obtain rfl : nb = 0 := by rcases H0.out with h | h <;> omega
      go_wp2
      clear c1
      go_loopw [8, 9, 19] (fun _ _ kv wr2 => kv = .int .i64 0 ∧ wr2 = w) (fun _ _ _ _ => 0)
      case atStart => exact ⟨rfl, rfl⟩
      case round =>
        obtain ⟨rfl, hw⟩ := hrel
        obtain rfl := hw.symm
        go_wp2
        go_roundw
        case rel => exact ⟨i + 1, by go_num, by omega, by trivial⟩
        case measure => simp [intOf]; omega
    · obtain rfl : i = na := by omega
      go_wp2
      go_end0
      exact ⟨rfl, rfl⟩

set_option maxHeartbeats 2000000 in
theorem sums_none {w : World} {v u : Value} {na nb : Nat} {xs ys : Nat → Int} (hv : Il w v na xs) (hu : Il w u nb ys) (h0 : na = 0 ∨ nb = 0) :
    Calls Try.prog 31 #[v, u] w fun e w' => e = .returned (.slice (some ⟨w.heap.size, 0, none⟩) 0 0) ∧ w' = w.alloc (.cells #[] 3) := by
  obtain ⟨ao1, cap1, rfl, hcap1, hc1⟩ := hv
  have HC1 : Hid (0 < na → ∃ b off, ao1 = some ⟨b, off, none⟩ ∧ b < w.heap.size ∧ ∀ k, k < na → w.cell? ⟨b, off + k, none⟩ = some (.int .i64 (xs k))) := hc1
  clear hc1
  obtain ⟨ao2, cap2, rfl, hcap2, hc2⟩ := hu
  have HC2 : Hid (0 < nb → ∃ b off, ao2 = some ⟨b, off, none⟩ ∧ b < w.heap.size ∧ ∀ k, k < nb → w.cell? ⟨b, off + k, none⟩ = some (.int .i64 (ys k))) := hc2
  clear hc2

  by_cases n1 : na = 0
  · subst n1
    go_enter Try.func31, Try.ntmps31
    go_wp2
    go_ret
    exact ⟨rfl, rfl⟩
  · obtain rfl : nb = 0 := by omega
    have e1 : ((na : Int) == 0) = false := by simp; omega
    clear h0
    go_enter Try.func31, Try.ntmps31
    go_wp2
    go_ret
    exact ⟨rfl, rfl⟩

set_option maxHeartbeats 2000000 in
theorem sums_some {w : World} {v u : Value} {na nb : Nat} {xs ys : Nat → Int} (hv : Il w v na xs) (hu : Il w u nb ys) (ha : 0 < na) (hb : 0 < nb) (hna : na ≤ 256) (hnb : nb ≤ 256) :
    Calls Try.prog 31 #[v, u] w fun e w' => e = .returned (.slice (some ⟨w.heap.size, 0, none⟩) (na + nb - 1) (na + nb - 1)) ∧ w'.ownsRow w.heap.size 3 1 (.slice (some ⟨w.heap.size, 0, none⟩) (na + nb - 1) (na + nb - 1)) (na + nb - 1) (ils (fun _ => 0) (na + nb - 1)) ∧ Below w.heap.size w w' := by
  obtain ⟨i0, hi, hz0, hz1, hz2⟩ := info_parts Try.info3
  obtain ⟨ao1, cap1, rfl, hcap1, hc1⟩ := hv
  have HC1 : Hid (0 < na → ∃ b off, ao1 = some ⟨b, off, none⟩ ∧ b < w.heap.size ∧ ∀ k, k < na → w.cell? ⟨b, off + k, none⟩ = some (.int .i64 (xs k))) := hc1
  clear hc1
  obtain ⟨ao2, cap2, rfl, hcap2, hc2⟩ := hu
  have HC2 : Hid (0 < nb → ∃ b off, ao2 = some ⟨b, off, none⟩ ∧ b < w.heap.size ∧ ∀ k, k < nb → w.cell? ⟨b, off + k, none⟩ = some (.int .i64 (ys k))) := hc2
  clear hc2

  obtain ⟨m, hm0⟩ : ∃ m, m = na + nb - 1 := ⟨_, rfl⟩
  rw [← hm0]
  have em : (na : Int) + (nb : Int) - 1 = (m : Int) := by omega
  have n1 : ((na : Int) == 0) = false := by simp; omega
  have n2 : ((nb : Int) == 0) = false := by simp; omega
  obtain ⟨w1, hm, hrow, hgr⟩ := run_makeSlice_full (P := Try.prog) w w.heap.size 24 3 i0 (.int .i64 0) 1 Try.underlying24 hi hz0 hz1 .i64 .i64 m (by omega) (by rw [hz2]; omega) (by unfold maxLen; omega) (Nat.le_refl _)
  have hbl : Below w.heap.size w w1 := (Below.refl _ _).grown hgr (Nat.le_refl _) (fun _ h => by cases h)
  rw [kmade_zero] at hrow
  clear hgr hi hz0 hz1 hz2 hm0
  have HR : Hid (w1.ownsRow w.heap.size 3 1 (.slice (some ⟨w.heap.size, 0, none⟩) m m) m (ils (fun _ => 0) m)) := hrow
  have HB : Hid (Below w.heap.size w w1) := hbl
  clear hrow hbl
  go_enter Try.func31, Try.ntmps31
  go_wp2
  go_ret
  exact ⟨rfl, HR.out, HB.out⟩

set_option maxHeartbeats 2000000 in
theorem iConv_yes {w : World} {v u : Value} {na nb : Nat} {xs ys : Nat → Int} (hv : Il w v na xs) (hu : Il w u nb ys) (hx : Tps na xs) (hy : Tps nb ys) (ha : 0 < na) (hb : 0 < nb) :
    Calls Try.prog 13 #[v, u] w fun e w' => Pst w w' e (na + nb - 1) (cvf (na + nb - 1) xs ys nb na) true := by
  have i1 := iTps_any hv (Nat.le_trans hx.1 (by omega))
  have i2 := iTps_any hu (Nat.le_trans hy.1 (by omega))
  rw [decide_eq_true hx] at i1
  rw [decide_eq_true hy] at i2
  have i3 := sums_some hv hu ha hb hx.1 hy.1
  obtain ⟨m, hm0⟩ : ∃ m, m = na + nb - 1 := ⟨_, rfl⟩
  rw [← hm0] at i3 ⊢
  have i4 : Hid (∀ W, Below w.heap.size w W → W.ownsRow w.heap.size 3 1 (.slice (some ⟨w.heap.size, 0, none⟩) m m) m (ils (fun _ => 0) m) → Calls Try.prog 32 #[.slice (some ⟨w.heap.size, 0, none⟩) m m, v, u] W fun e w' => e = .returned (.tuple #[]) ∧ w'.ownsRow w.heap.size 3 1 (.slice (some ⟨w.heap.size, 0, none⟩) m m) m (ils (cvf m xs ys nb na) m) ∧ Below w.heap.size w w') :=
    fun W h1 h2 => addP_any hv hu hx hy (by omega) (by have := hx.1; have := hy.1; omega) h1 h2 (Nat.le_refl _)
  obtain ⟨ao1, cap1, rfl, hcap1, hc1⟩ := hv
  obtain ⟨ao2, cap2, rfl, hcap2, hc2⟩ := hu
  clear hc1 hc2 hx hy hm0
  go_enter Try.func13, Try.ntmps13
  go_wp2_with (first | (go_at_call 30; (with_reducible refine (i1).mono ?_); rintro e w' ⟨rfl, hw⟩; obtain rfl := hw.symm) | (go_at_call 30; (with_reducible refine (i2).mono ?_); rintro e w' ⟨rfl, hw⟩; obtain rfl := hw.symm) | (go_at_call 31; (with_reducible refine (i3).mono ?_); rintro e w1 ⟨rfl, hr1, hb1⟩; have R1 : Hid (w1.ownsRow w.heap.size 3 1 (.slice (some ⟨w.heap.size, 0, none⟩) m m) m (ils (fun _ => 0) m)) := hr1; have B1 : Hid (Below w.heap.size w w1) := hb1; clear hr1 hb1) | (go_at_call 32; refine (i4.out _ B1.out R1.out).mono ?_; rintro e w2 ⟨rfl, hr2, hb2⟩; have R2 : Hid _ := hr2; have B2 : Hid _ := hb2; clear hr2 hb2))
  go_ret2
  exact ⟨_, rfl, R2.out, B2.out⟩

set_option maxHeartbeats 2000000 in
theorem iConv_none {w : World} {v u : Value} {na nb : Nat} {xs ys : Nat → Int} (hv : Il w v na xs) (hu : Il w u nb ys) (hx : Tps na xs) (hy : Tps nb ys) (h0 : na = 0 ∨ nb = 0) (zs : Nat → Int) :
    Calls Try.prog 13 #[v, u] w fun e w' => Pst w w' e 0 zs true := by
  have i1 := iTps_any hv (Nat.le_trans hx.1 (by omega))
  have i2 := iTps_any hu (Nat.le_trans hy.1 (by omega))
  rw [decide_eq_true hx] at i1
  rw [decide_eq_true hy] at i2
  have i3 := sums_none hv hu h0
  have i4 := addP_none (g := w.heap.size) (hv.below (below_one w (.cells #[] 3))) (hu.below (below_one w (.cells #[] 3))) (Nat.le_trans hx.1 (by omega)) h0
  obtain ⟨ao1, cap1, rfl, hcap1, hc1⟩ := hv
  obtain ⟨ao2, cap2, rfl, hcap2, hc2⟩ := hu
  clear hc1 hc2 hx hy h0
  go_enter Try.func13, Try.ntmps13
  go_wp2_with (first | (go_at_call 30; (with_reducible refine (i1).mono ?_); rintro e w' ⟨rfl, hw⟩; obtain rfl := hw.symm) | (go_at_call 30; (with_reducible refine (i2).mono ?_); rintro e w' ⟨rfl, hw⟩; obtain rfl := hw.symm) | (go_at_call 31; (with_reducible refine (i3).mono ?_); rintro e w1 ⟨rfl, hw1⟩; subst hw1) | (go_at_call 32; go_loud (refine (i4).mono ?_); rintro e w2 ⟨rfl, hw2⟩; obtain rfl := hw2.symm))
  go_ret2
  exact ⟨_, rfl, own_empty w 3 1, below_one _ _⟩

set_option maxHeartbeats 2000000 in
theorem sConv_no {w : World} {v u : Value} {na nb : Nat} {xs ys : Nat → Int} (hv : Il w v na xs) (hu : Il w u nb ys) (hna : na ≤ 1048576) (hnb : nb ≤ 1048576) (hbad : ¬ (Tps na xs ∧ Tps nb ys)) (zs : Nat → Int) :
    Calls Try.prog 14 #[v, u] w fun e w' => Pst w w' e 0 zs false := by
  have i1 := sTps_any hv hna
  have i2 := sTps_any hu hnb
  obtain ⟨ao1, cap1, rfl, hcap1, hc1⟩ := hv
  obtain ⟨ao2, cap2, rfl, hcap2, hc2⟩ := hu
  clear hc1 hc2
  by_cases hx : Tps na xs
  · rw [decide_eq_true hx] at i1
    by_cases hy : Tps nb ys
    · rw [decide_eq_true hy] at i2
      exact absurd ⟨hx, hy⟩ hbad
    · rw [decide_eq_false hy] at i2
      clear hbad hx hy
      go_enter Try.func14, Try.ntmps14
      go_wp2_with (first | (go_at_call 33; (with_reducible refine (i1).mono ?_); rintro e w' ⟨rfl, hw⟩; obtain rfl := hw.symm) | (go_at_call 33; (with_reducible refine (i2).mono ?_); rintro e w' ⟨rfl, hw⟩; obtain rfl := hw.symm))
      go_ret2
      exact ⟨_, rfl, own_empty w 3 1, below_one _ _⟩
  · rw [decide_eq_false hx] at i1
    clear hbad hx
    go_enter Try.func14, Try.ntmps14
    go_wp2_with (first | (go_at_call 33; (with_reducible refine (i1).mono ?_); rintro e w' ⟨rfl, hw⟩; obtain rfl := hw.symm) | (go_at_call 33; (with_reducible refine (i2).mono ?_); rintro e w' ⟨rfl, hw⟩; obtain rfl := hw.symm))
    go_ret2
    exact ⟨_, rfl, own_empty w 3 1, below_one _ _⟩

set_option maxHeartbeats 2000000 in
theorem iConv_no {w : World} {v u : Value} {na nb : Nat} {xs ys : Nat → Int} (hv : Il w v na xs) (hu : Il w u nb ys) (hna : na ≤ 1048576) (hnb : nb ≤ 1048576) (hbad : ¬ (Tps na xs ∧ Tps nb ys)) (zs : Nat → Int) :
    Calls Try.prog 13 #[v, u] w fun e w' => Pst w w' e 0 zs false := by
  have i1 := iTps_any hv hna
  have i2 := iTps_any hu hnb
  obtain ⟨ao1, cap1, rfl, hcap1, hc1⟩ := hv
  obtain ⟨ao2, cap2, rfl, hcap2, hc2⟩ := hu
  clear hc1 hc2
  by_cases hx : Tps na xs
  · rw [decide_eq_true hx] at i1
    by_cases hy : Tps nb ys
    · rw [decide_eq_true hy] at i2
      exact absurd ⟨hx, hy⟩ hbad
    · rw [decide_eq_false hy] at i2
      clear hbad hx hy
      go_enter Try.func13, Try.ntmps13
      go_wp2_with (first | (go_at_call 30; (with_reducible refine (i1).mono ?_); rintro e w' ⟨rfl, hw⟩; obtain rfl := hw.symm) | (go_at_call 30; (with_reducible refine (i2).mono ?_); rintro e w' ⟨rfl, hw⟩; obtain rfl := hw.symm))
      go_ret2
      exact ⟨_, rfl, own_empty w 3 1, below_one _ _⟩
  · rw [decide_eq_false hx] at i1
    clear hbad hx
    go_enter Try.func13, Try.ntmps13
    go_wp2_with (first | (go_at_call 30; (with_reducible refine (i1).mono ?_); rintro e w' ⟨rfl, hw⟩; obtain rfl := hw.symm) | (go_at_call 30; (with_reducible refine (i2).mono ?_); rintro e w' ⟨rfl, hw⟩; obtain rfl := hw.symm))
    go_ret2
    exact ⟨_, rfl, own_empty w 3 1, below_one _ _⟩

set_option maxHeartbeats 2000000 in
theorem sConv_none {w : World} {v u : Value} {na nb : Nat} {xs ys : Nat → Int} (hv : Il w v na xs) (hu : Il w u nb ys) (hx : Tps na xs) (hy : Tps nb ys) (h0 : na = 0 ∨ nb = 0) (zs : Nat → Int) :
    Calls Try.prog 14 #[v, u] w fun e w' => Pst w w' e 0 zs true := by
  have i1 := sTps_any hv (Nat.le_trans hx.1 (by omega))
  have i2 := sTps_any hu (Nat.le_trans hy.1 (by omega))
  rw [decide_eq_true hx] at i1
  rw [decide_eq_true hy] at i2
  obtain ⟨ao1, cap1, rfl, hcap1, hc1⟩ := hv
  obtain ⟨ao2, cap2, rfl, hcap2, hc2⟩ := hu
  clear hc1 hc2 hx hy
  by_cases n1 : na = 0
  · subst n1
    go_enter Try.func14, Try.ntmps14
    go_wp2_with (first | (go_at_call 33; (with_reducible refine (i1).mono ?_); rintro e w' ⟨rfl, hw⟩; obtain rfl := hw.symm) | (go_at_call 33; (with_reducible refine (i2).mono ?_); rintro e w' ⟨rfl, hw⟩; obtain rfl := hw.symm))
    go_ret2
    exact ⟨_, rfl, own_empty w 3 1, below_one _ _⟩
  · obtain rfl : nb = 0 := by omega
    have e1 : ((na : Int) == 0) = false := by simp; omega
    clear h0
    go_enter Try.func14, Try.ntmps14
    go_wp2_with (first | (go_at_call 33; (with_reducible refine (i1).mono ?_); rintro e w' ⟨rfl, hw⟩; obtain rfl := hw.symm) | (go_at_call 33; (with_reducible refine (i2).mono ?_); rintro e w' ⟨rfl, hw⟩; obtain rfl := hw.symm))
    go_ret2
    exact ⟨_, rfl, own_empty w 3 1, below_one _ _⟩
end Go.Proofs.Ytimjbpmppigaoaa
