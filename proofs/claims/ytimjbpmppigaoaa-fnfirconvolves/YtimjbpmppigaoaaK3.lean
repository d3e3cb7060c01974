/- Convolutions: the model, of lists that are taps. -/
import Derived.Test.YtimjbpmppigaoaaK2
import Derived.BigRegion
namespace Go.Proofs.Ytimjbpmppigaoaa
open Go.RowKit

set_option maxHeartbeats 4000000 in
/-- Of two lists that are such. -/
theorem sConv_yes {w : World} {v u : Value} {na nb : Nat} {xs ys : Nat → Int} (hv : Il w v na xs) (hu : Il w u nb ys) (hx : Tps na xs) (hy : Tps nb ys) (ha : 0 < na) (hb : 0 < nb) :
    Calls Try.prog 14 #[v, u] w fun e w' => Pst w w' e (na + nb - 1) (cvf (na + nb - 1) xs ys nb na) true := by
  obtain ⟨i0, hi, hz0, hz1, hz2⟩ := info_parts Try.info3
  have i1 := sTps_any hv (Nat.le_trans hx.1 (by omega))
  have i2 := sTps_any hu (Nat.le_trans hy.1 (by omega))
  rw [decide_eq_true hx] at i1
  rw [decide_eq_true hy] at i2
  have hx256 := hx.1
  have hy256 := hy.1
  obtain ⟨ao1, cap1, rfl, hcap1, hc1⟩ := hv
  have HC1 : Hid (0 < na → ∃ b off, ao1 = some ⟨b, off, none⟩ ∧ b < w.heap.size ∧ ∀ k, k < na → w.cell? ⟨b, off + k, none⟩ = some (.int .i64 (xs k))) := hc1
  clear hc1
  obtain ⟨ao2, cap2, rfl, hcap2, hc2⟩ := hu
  have HC2 : Hid (0 < nb → ∃ b off, ao2 = some ⟨b, off, none⟩ ∧ b < w.heap.size ∧ ∀ k, k < nb → w.cell? ⟨b, off + k, none⟩ = some (.int .i64 (ys k))) := hc2
  clear hc2
  obtain ⟨m, hm0⟩ : ∃ m, m = na + nb - 1 := ⟨_, rfl⟩
  rw [← hm0]
  have em : (na : Int) + (nb : Int) - 1 = (m : Int) := by omega
  have hmb : 0 < m ∧ m ≤ 512 := by omega
  have n1 : ((na : Int) == 0) = false := by simp; omega
  have n2 : ((nb : Int) == 0) = false := by simp; omega
  have HSL : Hid (∀ i, i < na → ∀ k, k ≤ nb → ∀ t, -100000000000000000 ≤ rwf m ys (xs i) i (cvf m xs ys nb i) k t ∧ rwf m ys (xs i) i (cvf m xs ys nb i) k t ≤ 100000000000000000) := fun i hi k hk t => sum_le hx hy i hi k hk t
  have HPR : Hid (∀ i, i < na → ∀ k, k < nb → -1000000000000 ≤ xs i * ys k ∧ xs i * ys k ≤ 1000000000000) := fun i hi k hk => prod_le (hx.2 i hi) (hy.2 k hk)
  clear hx hy
  obtain ⟨w1, hm, hrow, hgr⟩ := run_makeSlice_full (P := Try.prog) w w.heap.size 24 3 i0 (.int .i64 0) 1 Try.underlying24 hi hz0 hz1 .i64 .i64 m (by omega) (by rw [hz2]; omega) (by unfold maxLen; omega) (Nat.le_refl _)
  have hbl : Below w.heap.size w w1 := (Below.refl _ _).grown hgr (Nat.le_refl _) (fun _ h => by cases h)
  rw [kmade_zero] at hrow
  clear hgr hi hz0 hz1 hz2
  have HR : Hid (w1.ownsRow w.heap.size 3 1 (.slice (some ⟨w.heap.size, 0, none⟩) m m) m (ils (cvf m xs ys nb 0) m)) := hrow
  have HB : Hid (Below w.heap.size w w1) := hbl
  clear hrow hbl
  have HM : Hid (m = na + nb - 1) := hm0
  clear hm0
  go_enter Try.func14, Try.ntmps14
  go_wp2_with (first | (go_at_call 33; (with_reducible refine (i1).mono ?_); rintro e w' ⟨rfl, hw⟩; obtain rfl := hw.symm) | (go_at_call 33; (with_reducible refine (i2).mono ?_); rintro e w' ⟨rfl, hw⟩; obtain rfl := hw.symm))
  go_loopw [7, 8] (fun iv _ wr => ∃ i : Nat, iv = .int .i64 i ∧ i ≤ na ∧ Hid (wr.ownsRow w.heap.size 3 1 (.slice (some ⟨w.heap.size, 0, none⟩) m m) m (ils (cvf m xs ys nb i) m) ∧ Below w.heap.size w wr)) (fun iv _ _ => na - (intOf iv).toNat)
  case atStart => exact ⟨0, rfl, by omega, HR.out, HB.out⟩
  case round =>
    obtain ⟨i, rfl, hi, hrel⟩ := hrel
    have hrel_ := hrel
    by_cases h1 : i < na
    · go_wp2
      go_loopw [8] (fun kv wr2 => ∃ k : Nat, kv = .int .i64 k ∧ k ≤ nb ∧ Hid (wr2.ownsRow w.heap.size 3 1 (.slice (some ⟨w.heap.size, 0, none⟩) m m) m (ils (rwf m ys (xs i) i (cvf m xs ys nb i) k) m) ∧ Below w.heap.size w wr2)) (fun kv _ => nb - (intOf kv).toNat)
      case atStart => exact ⟨0, rfl, by omega, hrel_.out.1, hrel_.out.2⟩
      case round =>
        obtain ⟨k, rfl, hk, hrel⟩ := hrel
        obtain ⟨hrow, hbl⟩ := hrel.out
        by_cases h2 : k < nb
        · obtain ⟨b1, off1, rfl, hlt1, hcell1⟩ := HC1.out (by omega)
          obtain ⟨b2, off2, rfl, hlt2, hcell2⟩ := HC2.out (by omega)
          have c1 : wr.cell? ⟨b1, off1 + i, none⟩ = some (.int .i64 (xs i)) := (hbl.cell (p := ⟨b1, off1 + i, none⟩) hlt1).trans (hcell1 i h1)
          have c2 : wr.cell? ⟨b2, off2 + k, none⟩ = some (.int .i64 (ys k)) := (hbl.cell (p := ⟨b2, off2 + k, none⟩) hlt2).trans (hcell2 k h2)
          clear hcell1 hcell2 hlt1 hlt2
          obtain ⟨j, hj⟩ : ∃ j, j = (i + k) % m := ⟨_, rfl⟩
          have hjm : j < m := by rw [hj]; exact Nat.mod_lt _ (by omega)
          have ej : (i : Int) + (k : Int) = (j : Int) := by rw [hj, Nat.mod_eq_of_lt (by have := HM.out; omega)]; omega
          have hfz := hrow.frozenAt j
          have hce := hrow.cellAt j (by omega)
          rw [ils_get hjm] at hce
          obtain ⟨F, hF⟩ : ∃ F, F = rwf m ys (xs i) i (cvf m xs ys nb i) k := ⟨_, rfl⟩
          have r1 := HSL.out i h1 k hk j
          have r2 := HPR.out i h1 k h2
          rw [← hF] at hce r1
          have hst := (hrow.stored j (.int .i64 (F j + xs i * ys k))).1
          rw [← hF, ils_put] at hst
          have e2 : (fun t => if t = j then F j + xs i * ys k else F t) = rwf m ys (xs i) i (cvf m xs ys nb i) (k + 1) := by rw [hF, hj]; rfl
          rw [e2] at hst
          have HS : Hid _ := hst
          have HB2 : Hid (Below w.heap.size w (wr.setCell ⟨w.heap.size, j, none⟩ (.int .i64 (F j + xs i * ys k)))) := hbl.setCell (Nat.le_refl _) _
          clear hst hbl hrow hrel e2 hF hj
          have b1 : (0 : Int) ≤ (j : Int) ∧ (j : Int) < (m : Int) := by omega
          go_wp2
          go_region
          go_wp2
          go_roundw
          case rel => exact ⟨k + 1, by go_num, by omega, by first | exact HS.out | exact own_below HS.out (below_drewN (Below.refl _ _) 1), by first | exact HB2.out | exact below_drewN HB2.out 1⟩
          case measure => simp [intOf]; omega
        · obtain rfl : k = nb := by omega
          have HR2 : Hid _ := hrow
          have HB2 : Hid _ := hbl
          clear hrow hbl hrel
          go_wp2
          go_roundw
          case rel => exact ⟨i + 1, by go_num, by omega, HR2.out, HB2.out⟩
          case measure => simp [intOf]; omega
    · obtain rfl : i = na := by omega
      go_wp2
      go_ret2
      exact ⟨_, rfl, hrel.out.1, hrel.out.2⟩

end Go.Proofs.Ytimjbpmppigaoaa
