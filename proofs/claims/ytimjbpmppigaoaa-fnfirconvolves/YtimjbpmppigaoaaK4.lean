/- Convolutions: the program, of lists that are taps. -/
import Derived.Test.YtimjbpmppigaoaaK3
import Derived.BigRegion
namespace Go.Proofs.Ytimjbpmppigaoaa
open Go.RowKit

set_option maxHeartbeats 4000000 in
/-- All products added to the sums, around m. -/
theorem addP_any {w w0 : World} {v u : Value} {na nb m g : Nat} {xs ys : Nat → Int} (hv : Il w v na xs) (hu : Il w u nb ys) (hx : Tps na xs) (hy : Tps nb ys) (hm1 : 0 < m) (hm2 : m ≤ 1048576)
    (hb0 : Below w.heap.size w w0) (hrow : w0.ownsRow w.heap.size 3 1 (.slice (some ⟨g, 0, none⟩) m m) m (ils (cvf m xs ys nb 0) m)) (hBg : w.heap.size ≤ g) :
    Calls Try.prog 32 #[.slice (some ⟨g, 0, none⟩) m m, v, u] w0 fun e w' => e = .returned (.tuple #[]) ∧ w'.ownsRow w.heap.size 3 1 (.slice (some ⟨g, 0, none⟩) m m) m (ils (cvf m xs ys nb na) m) ∧ Below w.heap.size w w' := by
  have hx256 := hx.1
  have hy256 := hy.1
  obtain ⟨ao1, cap1, rfl, hcap1, hc1⟩ := hv
  have HC1 : Hid (0 < na → ∃ b off, ao1 = some ⟨b, off, none⟩ ∧ b < w.heap.size ∧ ∀ k, k < na → w.cell? ⟨b, off + k, none⟩ = some (.int .i64 (xs k))) := hc1
  clear hc1
  obtain ⟨ao2, cap2, rfl, hcap2, hc2⟩ := hu
  have HC2 : Hid (0 < nb → ∃ b off, ao2 = some ⟨b, off, none⟩ ∧ b < w.heap.size ∧ ∀ k, k < nb → w.cell? ⟨b, off + k, none⟩ = some (.int .i64 (ys k))) := hc2
  clear hc2

  have HSL : Hid (∀ i, i < na → ∀ k, k ≤ nb → ∀ t, -100000000000000000 ≤ rwf m ys (xs i) i (cvf m xs ys nb i) k t ∧ rwf m ys (xs i) i (cvf m xs ys nb i) k t ≤ 100000000000000000) := fun i hi k hk t => sum_le hx hy i hi k hk t
  have HPR : Hid (∀ i, i < na → ∀ k, k < nb → -1000000000000 ≤ xs i * ys k ∧ xs i * ys k ≤ 1000000000000) := fun i hi k hk => prod_le (hx.2 i hi) (hy.2 k hk)
  clear hx hy
  have HR : Hid (w0.ownsRow w.heap.size 3 1 (.slice (some ⟨g, 0, none⟩) m m) m (ils (cvf m xs ys nb 0) m)) := hrow
  have HB : Hid (Below w.heap.size w w0) := hb0
  have HG : Hid (w.heap.size ≤ g) := hBg
  clear hrow hb0 hBg
  go_enter Try.func32, Try.ntmps32
  go_wp2
  go_loopw [6, 7, 8, 9, 12] (fun _ _ _ _ iv wr => ∃ i : Nat, iv = .int .i64 i ∧ i ≤ na ∧ Hid (wr.ownsRow w.heap.size 3 1 (.slice (some ⟨g, 0, none⟩) m m) m (ils (cvf m xs ys nb i) m) ∧ Below w.heap.size w wr)) (fun _ _ _ _ iv _ => na - (intOf iv).toNat)
  case atStart => exact ⟨0, rfl, by omega, HR.out, HB.out⟩
  case round =>
    obtain ⟨i, rfl, hi, hrel⟩ := hrel
    have hrel_ := hrel
    by_cases h1 : i < na
    · obtain ⟨b1, off1, rfl, hlt1, hcell1⟩ := HC1.out (by omega)
      have c1 : wr.cell? ⟨b1, off1 + i, none⟩ = some (.int .i64 (xs i)) := (hrel_.out.2.cell (p := ⟨b1, off1 + i, none⟩) hlt1).trans (hcell1 i h1)
      clear hcell1 hlt1
      go_wp2
      clear c1
      go_loopw [8, 9, 19] (fun _ _ kv wr2 => ∃ k : Nat, kv = .int .i64 k ∧ k ≤ nb ∧ Hid (wr2.ownsRow w.heap.size 3 1 (.slice (some ⟨g, 0, none⟩) m m) m (ils (rwf m ys (xs i) i (cvf m xs ys nb i) k) m) ∧ Below w.heap.size w wr2)) (fun _ _ kv _ => nb - (intOf kv).toNat)
      case atStart => exact ⟨0, rfl, by omega, hrel_.out.1, hrel_.out.2⟩
      case round =>
        obtain ⟨k, rfl, hk, hrel⟩ := hrel
        obtain ⟨hrow, hbl⟩ := hrel.out
        by_cases h2 : k < nb
        · obtain ⟨b2, off2, rfl, hlt2, hcell2⟩ := HC2.out (by omega)
          have c2 : wr.cell? ⟨b2, off2 + k, none⟩ = some (.int .i64 (ys k)) := (hbl.cell (p := ⟨b2, off2 + k, none⟩) hlt2).trans (hcell2 k h2)
          clear hcell2 hlt2
          obtain ⟨j, hj⟩ : ∃ j, j = (i + k) % m := ⟨_, rfl⟩
          have hjm : j < m := by rw [hj]; exact Nat.mod_lt _ (by omega)
          have ej : ((i : Int) + (k : Int)) % (m : Int) = (j : Int) := by rw [hj]; exact (Int.natCast_emod _ _).symm
          have hfz := hrow.frozenAt j
          have hce := hrow.cellAt j (by omega)
          rw [ils_get hjm] at hce
          obtain ⟨F, hF⟩ : ∃ F, F = rwf m ys (xs i) i (cvf m xs ys nb i) k := ⟨_, rfl⟩
          have r1 := HSL.out i h1 k hk j
          have r2 := HPR.out i h1 k h2
          rw [← hF] at hce r1
          have hst := (hrow.stored j (.int .i64 (F j + xs i * ys k))).1
          rw [← hF, ils_put] at hst
          have e2 : (fun t => if t = j then F j + xs i * ys k else F t) = rwf m ys (xs i) i (cvf m xs ys nb i) (k + 1) := by rw [hF, hj]; rfl
          rw [e2] at hst
          have HS : Hid _ := hst
          have HB2 : Hid (Below w.heap.size w (wr.setCell ⟨g, j, none⟩ (.int .i64 (F j + xs i * ys k)))) := hbl.setCell HG.out _
          clear hst hbl hrow hrel e2 hF hj
          have b1 : (0 : Int) ≤ (j : Int) ∧ (j : Int) < (m : Int) := by omega
          go_wp2
          try go_region
          go_wp2
          go_roundw
          case rel => exact ⟨k + 1, by go_num, by omega, by first | exact HS.out | exact own_below HS.out (below_drewN (Below.refl _ _) 1), by first | exact HB2.out | exact below_drewN HB2.out 1⟩
          case measure => simp [intOf]; omega
        · obtain rfl : k = nb := by omega
          have HR2 : Hid _ := hrow
          have HB2 : Hid _ := hbl
          clear hrow hbl hrel
          go_wp2
          go_roundw
          case rel => exact ⟨i + 1, by go_num, by omega, HR2.out, HB2.out⟩
          case measure => simp [intOf]; omega
    · obtain rfl : i = na := by omega
      go_wp2
      go_end0
      exact ⟨rfl, hrel.out.1, hrel.out.2⟩
end Go.Proofs.Ytimjbpmppigaoaa
