/- How often each stands in an order. -/
import Derived.Test.YtlccicbgepfbbaaEF
import Derived.Test.YtlccicbgepfbbaaBG
namespace Go.Proofs.Ytlccicbgepfbbaa
open Go.RowKit

theorem cnt_le (y : Nat → Int) (b : Nat) : ∀ k, cnt y k b ≤ k
  | 0 => Nat.le_refl _
  | k + 1 => by
    have := cnt_le y b k
    show cnt y k b + (if y k = (b : Int) then 1 else 0) ≤ k + 1
    split <;> omega

set_option maxRecDepth 20000 in
set_option maxHeartbeats 8000000 in
theorem times_any {w : World} {v : Value} {n L : Nat} {y : Nat → Int} (hv : Il w v L y) (hn : n ≤ 20) (hL : L ≤ 2000) (hy : ∀ q, q < L → 0 ≤ y q ∧ y q ≤ (n : Int) - 1) :
    Calls Try.prog 17 #[.int .i64 (n : Int), v] w fun e w' => ∃ u, e = .returned u ∧ Il w' u n (fun b => (cnt y L b : Int)) ∧ Below w.heap.size w w' := by
  obtain ⟨i0, hi, hz0, hz1, hz2⟩ := info_parts Try.info3
  obtain ⟨ao, cap, rfl, hcap, hc⟩ := hv
  have HC : Hid (0 < L → ∃ b off, ao = some ⟨b, off, none⟩ ∧ b < w.heap.size ∧ ∀ k, k < L → w.cell? ⟨b, off + k, none⟩ = some (.int .i64 (y k))) := hc
  have HY : Hid (∀ q, q < L → 0 ≤ y q ∧ y q ≤ (n : Int) - 1) := hy
  clear hc hy
  obtain ⟨w1, hm, hrow, hgr⟩ := run_makeSlice_full (P := Try.prog) w w.heap.size 27 3 i0 (.int .i64 0) 1 Try.underlying27 hi hz0 hz1 .i64 .i64 n (by omega) (by rw [hz2]; omega) (by unfold maxLen; omega) (Nat.le_refl _)
  have hbl : Below w.heap.size w w1 := (Below.refl _ _).grown hgr (Nat.le_refl _) (fun _ h => by cases h)
  rw [made_zero] at hrow
  obtain ⟨g0, hg0⟩ : ∃ g, g = w.heap.size := ⟨_, rfl⟩
  have HG0 : Hid (g0 = w.heap.size) := hg0
  rw [← hg0] at hrow hm
  have R0 : Hid (w1.ownsRow g0 3 1 (.slice (some ⟨g0, 0, none⟩) n n) n (ils (fun b => ((cnt y 0 b : Nat) : Int)) n)) := hrow
  have B0 : Hid (Below w.heap.size w w1) := hbl
  clear hrow hgr hbl hg0 hi hz0 hz1 hz2
  go_enter Try.func17, Try.ntmps17
  go_wp2
  clear hm
  go_loopw [6] (fun i wr => ∃ k : Nat, i = .int .i64 k ∧ k ≤ L ∧ Hid (wr.ownsRow g0 3 1 (.slice (some ⟨g0, 0, none⟩) n n) n (ils (fun b => ((cnt y k b : Nat) : Int)) n) ∧ Below w.heap.size w wr)) (fun i _ => L - (intOf i).toNat)
  case atStart => exact ⟨0, rfl, by omega, R0.out, B0.out⟩
  case round =>
    clear R0 B0
    obtain ⟨k, rfl, hk, hrel⟩ := hrel
    have HR : Hid (wr.ownsRow g0 3 1 (.slice (some ⟨g0, 0, none⟩) n n) n (ils (fun b => ((cnt y k b : Nat) : Int)) n)) := hrel.out.1
    have HB : Hid (Below w.heap.size w wr) := hrel.out.2
    clear hrel
    by_cases h1 : k < L
    · obtain ⟨b, off, rfl, hlt, hcell⟩ := HC.out (by omega)
      have hyk := HY.out k h1
      obtain ⟨p, hp⟩ : ∃ p : Nat, y k = (p : Int) := ⟨(y k).toNat, by omega⟩
      have c : wr.cell? ⟨b, off + k, none⟩ = some (.int .i64 (p : Int)) := by rw [← hp]; exact (HB.out.cell (p := ⟨b, off + k, none⟩) hlt).trans (hcell k h1)
      have hpn : p < n := by omega
      have z0 := World.ownsRow.frozenAt HR.out p
      have z1 := World.ownsRow.cellAt HR.out p (by omega)
      rw [ils_get hpn] at z1
      have hle := cnt_le y p k
      have R1 : Hid ((wr.setCell ⟨g0, p, none⟩ (.int .i64 ((cnt y k p + 1 : Nat) : Int))).ownsRow g0 3 1 (.slice (some ⟨g0, 0, none⟩) n n) n (ils (fun b => ((cnt y (k + 1) b : Nat) : Int)) n)) := by
        have h2 := own_put (j := p) (y := cnt y k p + 1) HR.out
        have e : (fun i => ((if i = p then cnt y k p + 1 else cnt y k i : Nat) : Int)) = fun b => ((cnt y (k + 1) b : Nat) : Int) := by
          funext i
          show _ = ((cnt y k i + (if y k = (i : Int) then 1 else 0) : Nat) : Int)
          rw [hp]
          by_cases e : i = p
          · subst e
            rw [if_pos rfl, if_pos rfl]
          · rw [if_neg e, if_neg (by omega)]
            rfl
        rw [e] at h2
        exact h2
      have B1 : Hid (Below w.heap.size w (wr.setCell ⟨g0, p, none⟩ (.int .i64 ((cnt y k p + 1 : Nat) : Int)))) := HB.out.setCell (p := ⟨g0, p, none⟩) (by show _ ≤ g0; rw [HG0.out]; exact Nat.le_refl _) _
      rw [show ((cnt y k p + 1 : Nat) : Int) = (cnt y k p : Int) + 1 by omega] at R1 B1
      clear hyk hp HR HB hcell
      generalize cnt y k p = cc at z1 R1 B1 hle
      go_wp2
      go_roundw
      case rel => exact ⟨k + 1, by go_num, by omega, R1.out, B1.out⟩
      case measure => simp [intOf]; omega
    · obtain rfl : k = L := by omega
      go_wp2
      go_ret
      exact ⟨_, rfl, il_of_own HR.out, HB.out⟩

end Go.Proofs.Ytlccicbgepfbbaa
