/- Convolutions: both sides, of any lists. -/
import Derived.Test.YtbbbahbbfaglbaaDoorK4
import Derived.BigRegion
namespace Go.Proofs.YtbbbahbbfaglbaaDoor
open Go.RowKit

set_option maxHeartbeats 2000000 in
/-- Nothing is added where one list is empty. -/
theorem addP_none {w : World} {v u : Value} {na nb g : Nat} {xs ys : Nat → Int} (hv : Il w v na xs) (hu : Il w u nb ys) (hn : na ≤ 1048576) (h0 : na = 0 ∨ nb = 0) :
    Calls Tryd.prog 34 #[.slice (some ⟨g, 0, none⟩) 0 0, v, u] w fun e w' => e = .returned (.tuple #[]) ∧ w' = w := by
  obtain ⟨ao1, cap1, rfl, hcap1, hc1⟩ := hv
  have HC1 : Hid (0 < na → ∃ b off, ao1 = some ⟨b, off, none⟩ ∧ b < w.heap.size ∧ ∀ k, k < na → w.cell? ⟨b, off + k, none⟩ = some (.int .i64 (xs k))) := hc1
  clear hc1
  obtain ⟨ao2, cap2, rfl, hcap2, hc2⟩ := hu
  have HC2 : Hid (0 < nb → ∃ b off, ao2 = some ⟨b, off, none⟩ ∧ b < w.heap.size ∧ ∀ k, k < nb → w.cell? ⟨b, off + k, none⟩ = some (.int .i64 (ys k))) := hc2
  clear hc2

  have H0 : Hid (na = 0 ∨ nb = 0) := h0
  clear h0
  go_enter Tryd.func34, Tryd.ntmps34
  go_wp2
  go_loopw [6, 7, 8, 9, 12] (fun _ _ _ _ iv wr => ∃ i : Nat, iv = .int .i64 i ∧ i ≤ na ∧ wr = w) (fun _ _ _ _ iv _ => na - (intOf iv).toNat)
  case atStart => exact ⟨0, rfl, by omega, rfl⟩
  case round =>
    obtain ⟨i, rfl, hi, hw⟩ := hrel
    obtain rfl := hw.symm
    by_cases h1 : i < na
    · obtain ⟨b1, off1, rfl, hlt1, hcell1⟩ := HC1.out (by omega)
      have c1 := hcell1 i h1
      clear hcell1 hlt1
      obtain rfl : nb = 0 := by rcases H0.out with h | h <;> omega
      go_wp2
      clear c1
      go_loopw [8, 9, 19] (fun _ _ kv wr2 => kv = .int .i64 0 ∧ wr2 = w) (fun _ _ _ _ => 0)
      case atStart => exact ⟨rfl, rfl⟩
      case round =>
        obtain ⟨rfl, hw⟩ := hrel
        obtain rfl := hw.symm
        go_wp2
        go_roundw
        case rel => exact ⟨i + 1, by go_num, by omega, by trivial⟩
        case measure => simp [intOf]; omega
    · obtain rfl : i = na := by omega
      go_wp2
      go_end0
      exact ⟨rfl, rfl⟩

set_option maxHeartbeats 2000000 in
theorem iArd_yes {w : World} {v u : Value} {na nb : Nat} {xs ys : Nat → Int} (hv : Il w v na xs) (hu : Il w u nb ys) (hx : Tps na xs) (hy : Tps nb ys) (ha : 0 < na) (hab : na = nb) :
    Calls Tryd.prog 11 #[v, u] w fun e w' => Pst w w' e na (cvf na xs ys nb na) true := by
  obtain ⟨i0, hi, hz0, hz1, hz2⟩ := info_parts Tryd.info3
  subst hab
  have i1 := iTps_any hv (Nat.le_trans hx.1 (by omega))
  have i2 := iTps_any hu (Nat.le_trans hy.1 (by omega))
  rw [decide_eq_true hx] at i1
  rw [decide_eq_true hy] at i2
  have hx256 := hx.1
  have i4 : Hid (∀ W, Below w.heap.size w W → W.ownsRow w.heap.size 3 1 (.slice (some ⟨w.heap.size, 0, none⟩) na na) na (ils (fun _ => 0) na) → Calls Tryd.prog 34 #[.slice (some ⟨w.heap.size, 0, none⟩) na na, v, u] W fun e w' => e = .returned (.tuple #[]) ∧ w'.ownsRow w.heap.size 3 1 (.slice (some ⟨w.heap.size, 0, none⟩) na na) na (ils (cvf na xs ys na na) na) ∧ Below w.heap.size w w') :=
    fun W h1 h2 => addP_any hv hu hx hy (by omega) (by omega) h1 h2 (Nat.le_refl _)
  obtain ⟨ao1, cap1, rfl, hcap1, hc1⟩ := hv
  obtain ⟨ao2, cap2, rfl, hcap2, hc2⟩ := hu
  clear hc1 hc2 hx hy
  have n1 : ((na : Int) == 0) = false := by simp; omega
  obtain ⟨w1, hm, hrow, hgr⟩ := run_makeSlice_full (P := Tryd.prog) w w.heap.size 24 3 i0 (.int .i64 0) 1 Tryd.underlying24 hi hz0 hz1 .i64 .i64 na (by omega) (by rw [hz2]; omega) (by unfold maxLen; omega) (Nat.le_refl _)
  have hbl : Below w.heap.size w w1 := (Below.refl _ _).grown hgr (Nat.le_refl _) (fun _ h => by cases h)
  rw [made_zero] at hrow
  clear hgr hi hz0 hz1 hz2
  have R1 : Hid (w1.ownsRow w.heap.size 3 1 (.slice (some ⟨w.heap.size, 0, none⟩) na na) na (ils (fun _ => 0) na)) := hrow
  have B1 : Hid (Below w.heap.size w w1) := hbl
  clear hrow hbl
  go_enter Tryd.func11, Tryd.ntmps11
  go_wp2_with (first | (go_at_call 33; (with_reducible refine (i1).mono ?_); rintro e w' ⟨rfl, hw⟩; obtain rfl := hw.symm) | (go_at_call 33; (with_reducible refine (i2).mono ?_); rintro e w' ⟨rfl, hw⟩; obtain rfl := hw.symm) | (go_at_call 34; refine (i4.out _ B1.out R1.out).mono ?_; rintro e w2 ⟨rfl, hr2, hb2⟩; have R2 : Hid _ := hr2; have B2 : Hid _ := hb2; clear hr2 hb2))
  go_ret2
  exact ⟨_, rfl, R2.out, B2.out⟩

set_option maxHeartbeats 2000000 in
theorem sArd_no {w : World} {v u : Value} {na nb : Nat} {xs ys : Nat → Int} (hv : Il w v na xs) (hu : Il w u nb ys) (hna : na ≤ 1048576) (hnb : nb ≤ 1048576) (hbad : ¬ (Tps na xs ∧ Tps nb ys ∧ na = nb ∧ 0 < na)) (zs : Nat → Int) :
    Calls Tryd.prog 12 #[v, u] w fun e w' => Pst w w' e 0 zs false := by
  have i1 := sTps_any hv hna
  have i2 := sTps_any hu hnb
  obtain ⟨ao1, cap1, rfl, hcap1, hc1⟩ := hv
  obtain ⟨ao2, cap2, rfl, hcap2, hc2⟩ := hu
  clear hc1 hc2
  by_cases hx : Tps na xs
  · rw [decide_eq_true hx] at i1
    by_cases hy : Tps nb ys
    · rw [decide_eq_true hy] at i2
      by_cases hab : na = nb
      · subst hab
        obtain rfl : na = 0 := by
          rcases Nat.eq_zero_or_pos na with h | h
          · exact h
          · exact absurd ⟨hx, hy, rfl, h⟩ hbad
        clear hbad hx hy
        go_enter Tryd.func12, Tryd.ntmps12
        go_wp2_with (first | (go_at_call 35; (with_reducible refine (i1).mono ?_); rintro e w' ⟨rfl, hw⟩; obtain rfl := hw.symm) | (go_at_call 35; (with_reducible refine (i2).mono ?_); rintro e w' ⟨rfl, hw⟩; obtain rfl := hw.symm))
        go_ret2
        exact ⟨_, rfl, own_empty w 3 1, below_one _ _⟩
      · have e1 : ((na : Int) == (nb : Int)) = false := by simp; omega
        have e2 : decide ((na : Int) = (nb : Int)) = false := by simp; omega
        clear hbad hx hy
        go_enter Tryd.func12, Tryd.ntmps12
        go_wp2_with (first | (go_at_call 35; (with_reducible refine (i1).mono ?_); rintro e w' ⟨rfl, hw⟩; obtain rfl := hw.symm) | (go_at_call 35; (with_reducible refine (i2).mono ?_); rintro e w' ⟨rfl, hw⟩; obtain rfl := hw.symm))
        go_ret2
        exact ⟨_, rfl, own_empty w 3 1, below_one _ _⟩
    · rw [decide_eq_false hy] at i2
      clear hbad hx hy
      go_enter Tryd.func12, Tryd.ntmps12
      go_wp2_with (first | (go_at_call 35; (with_reducible refine (i1).mono ?_); rintro e w' ⟨rfl, hw⟩; obtain rfl := hw.symm) | (go_at_call 35; (with_reducible refine (i2).mono ?_); rintro e w' ⟨rfl, hw⟩; obtain rfl := hw.symm))
      go_ret2
      exact ⟨_, rfl, own_empty w 3 1, below_one _ _⟩
  · rw [decide_eq_false hx] at i1
    clear hbad hx
    go_enter Tryd.func12, Tryd.ntmps12
    go_wp2_with (first | (go_at_call 35; (with_reducible refine (i1).mono ?_); rintro e w' ⟨rfl, hw⟩; obtain rfl := hw.symm) | (go_at_call 35; (with_reducible refine (i2).mono ?_); rintro e w' ⟨rfl, hw⟩; obtain rfl := hw.symm))
    go_ret2
    exact ⟨_, rfl, own_empty w 3 1, below_one _ _⟩

set_option maxHeartbeats 2000000 in
theorem iArd_no {w : World} {v u : Value} {na nb : Nat} {xs ys : Nat → Int} (hv : Il w v na xs) (hu : Il w u nb ys) (hna : na ≤ 1048576) (hnb : nb ≤ 1048576) (hbad : ¬ (Tps na xs ∧ Tps nb ys ∧ na = nb ∧ 0 < na)) (zs : Nat → Int) :
    Calls Tryd.prog 11 #[v, u] w fun e w' => Pst w w' e 0 zs false := by
  have i1 := iTps_any hv hna
  have i2 := iTps_any hu hnb
  obtain ⟨ao1, cap1, rfl, hcap1, hc1⟩ := hv
  obtain ⟨ao2, cap2, rfl, hcap2, hc2⟩ := hu
  clear hc1 hc2
  by_cases hx : Tps na xs
  · rw [decide_eq_true hx] at i1
    by_cases hy : Tps nb ys
    · rw [decide_eq_true hy] at i2
      by_cases hab : na = nb
      · subst hab
        obtain rfl : na = 0 := by
          rcases Nat.eq_zero_or_pos na with h | h
          · exact h
          · exact absurd ⟨hx, hy, rfl, h⟩ hbad
        clear hbad hx hy
        go_enter Tryd.func11, Tryd.ntmps11
        go_wp2_with (first | (go_at_call 33; (with_reducible refine (i1).mono ?_); rintro e w' ⟨rfl, hw⟩; obtain rfl := hw.symm) | (go_at_call 33; (with_reducible refine (i2).mono ?_); rintro e w' ⟨rfl, hw⟩; obtain rfl := hw.symm))
        go_ret2
        exact ⟨_, rfl, own_empty w 3 1, below_one _ _⟩
      · have e1 : ((na : Int) == (nb : Int)) = false := by simp; omega
        have e2 : decide ((na : Int) = (nb : Int)) = false := by simp; omega
        clear hbad hx hy
        go_enter Tryd.func11, Tryd.ntmps11
        go_wp2_with (first | (go_at_call 33; (with_reducible refine (i1).mono ?_); rintro e w' ⟨rfl, hw⟩; obtain rfl := hw.symm) | (go_at_call 33; (with_reducible refine (i2).mono ?_); rintro e w' ⟨rfl, hw⟩; obtain rfl := hw.symm))
        go_ret2
        exact ⟨_, rfl, own_empty w 3 1, below_one _ _⟩
    · rw [decide_eq_false hy] at i2
      clear hbad hx hy
      go_enter Tryd.func11, Tryd.ntmps11
      go_wp2_with (first | (go_at_call 33; (with_reducible refine (i1).mono ?_); rintro e w' ⟨rfl, hw⟩; obtain rfl := hw.symm) | (go_at_call 33; (with_reducible refine (i2).mono ?_); rintro e w' ⟨rfl, hw⟩; obtain rfl := hw.symm))
      go_ret2
      exact ⟨_, rfl, own_empty w 3 1, below_one _ _⟩
  · rw [decide_eq_false hx] at i1
    clear hbad hx
    go_enter Tryd.func11, Tryd.ntmps11
    go_wp2_with (first | (go_at_call 33; (with_reducible refine (i1).mono ?_); rintro e w' ⟨rfl, hw⟩; obtain rfl := hw.symm) | (go_at_call 33; (with_reducible refine (i2).mono ?_); rintro e w' ⟨rfl, hw⟩; obtain rfl := hw.symm))
    go_ret2
    exact ⟨_, rfl, own_empty w 3 1, below_one _ _⟩

end Go.Proofs.YtbbbahbbfaglbaaDoor
