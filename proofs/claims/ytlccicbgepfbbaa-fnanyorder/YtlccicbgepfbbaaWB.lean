/- Wires handed over. -/
import Derived.Test.YtlccicbgepfbbaaWA
namespace Go.Proofs.Ytlccicbgepfbbaa
open Go.RowKit

theorem toSec_any (s : Wr) (w : World) : Calls Try.prog 61 #[s.v] w fun e w' => e = .returned s.v ∧ Below w.heap.size w w' := by
  have hb : Below w.heap.size w (s.w (s.w (w.alloc (.cells #[.int .i64 s.fr, .int .i64 s.to, .int .i64 s.gi, .int .i64 s.ta, .int .i64 s.ha] 85)))) := bstep (bstep (below_one _ _) (below_one _ _)) (below_one _ _)
  go_enter Try.func61, Try.ntmps61
  go_wp2
  refine bodyPost_ret (v := s.v) (by simp [results, go_sem]) rfl ?_
  exact ⟨rfl, hb⟩

set_option maxHeartbeats 4000000 in
theorem copy5 {w : World} {v : Value} {n : Nat} {ss : Nat → Wr} (hv : Il5 w v n ss) (hn : n ≤ 1048576) :
    Calls Try.prog 30 #[v] w fun e w' => Below w.heap.size w w' ∧ ∃ v', e = .returned v' ∧ w'.ownsRow w.heap.size 31 5 v' n (ils (zs ss) (n * 5)) := by
  obtain ⟨i0, hi, hz0, hz1, hz2⟩ := info_parts Try.info31
  obtain ⟨ao, cap, rfl, hcap, hc⟩ := hv
  have HC : Hid (0 < n → ∃ b off, ao = some ⟨b, off, none⟩ ∧ b < w.heap.size ∧ ∀ k, k < n → w.cell? ⟨b, off + k * 5, none⟩ = some (.int .i64 (ss k).fr) ∧ w.cell? ⟨b, off + k * 5 + 1, none⟩ = some (.int .i64 (ss k).to) ∧ w.cell? ⟨b, off + k * 5 + 2, none⟩ = some (.int .i64 (ss k).gi) ∧ w.cell? ⟨b, off + k * 5 + 3, none⟩ = some (.int .i64 (ss k).ta) ∧ w.cell? ⟨b, off + k * 5 + 4, none⟩ = some (.int .i64 (ss k).ha)) := hc
  clear hc
  obtain ⟨w1, hm, hrow, hgr⟩ := run_makeSlice_full (P := Try.prog) w w.heap.size 24 31 i0 (.agg #[.int .i64 0, .int .i64 0, .int .i64 0, .int .i64 0, .int .i64 0]) 5 Try.underlying24 hi hz0 hz1 .i64 .i64 n (by omega) (by rw [hz2]; omega) (by unfold maxLen; omega) (Nat.le_refl _)
  have hbl : Below w.heap.size w w1 := (Below.refl _ _).grown hgr (Nat.le_refl _) (fun _ h => by cases h)
  rw [made5] at hrow
  have HR : Hid (w1.ownsRow w.heap.size 31 5 (.slice (some ⟨w.heap.size, 0, none⟩) n n) n (ils (fun _ => 0) (n * 5))) := hrow
  have HB : Hid (Below w.heap.size w w1) := hbl
  clear hrow hbl hgr hi hz0 hz1 hz2
  go_enter Try.func30, Try.ntmps30
  go_wp2
  go_loopw [4] (fun i wr => ∃ k : Nat, i = .int .i64 k ∧ k ≤ n ∧ Hid ((∃ f', wr.ownsRow w.heap.size 31 5 (.slice (some ⟨w.heap.size, 0, none⟩) n n) n (ils f' (n * 5)) ∧ ∀ j, j < k * 5 → f' j = zs ss j) ∧ Below w.heap.size w wr)) (fun i _ => n - (intOf i).toNat)
  case atStart => exact ⟨0, rfl, by omega, ⟨_, HR.out, fun j hj => by omega⟩, HB.out⟩
  case round =>
    obtain ⟨k, rfl, hk, hrel⟩ := hrel
    obtain ⟨⟨f', hf, hmk⟩, hbl⟩ := hrel.out
    by_cases h1 : k < n
    · obtain ⟨b, off, rfl, hlt, hcell⟩ := HC.out (by omega)
      have hb := hbl
      obtain ⟨c0, c1, c2, c3, c4⟩ := hcell k h1
      obtain ⟨c0, c1, c2, c3, c4⟩ : wr.cell? ⟨b, off + k * 5, none⟩ = some (.int .i64 (ss k).fr) ∧ wr.cell? ⟨b, off + k * 5 + 1, none⟩ = some (.int .i64 (ss k).to) ∧ wr.cell? ⟨b, off + k * 5 + 2, none⟩ = some (.int .i64 (ss k).gi) ∧ wr.cell? ⟨b, off + k * 5 + 3, none⟩ = some (.int .i64 (ss k).ta) ∧ wr.cell? ⟨b, off + k * 5 + 4, none⟩ = some (.int .i64 (ss k).ha) := ⟨(hb.cell (p := ⟨b, off + k * 5, none⟩) hlt).trans c0, (hb.cell (p := ⟨b, off + k * 5 + 1, none⟩) hlt).trans c1, (hb.cell (p := ⟨b, off + k * 5 + 2, none⟩) hlt).trans c2, (hb.cell (p := ⟨b, off + k * 5 + 3, none⟩) hlt).trans c3, (hb.cell (p := ⟨b, off + k * 5 + 4, none⟩) hlt).trans c4⟩
      have i6 := toSec_any (ss k)
      have HF : Hid _ := hf
      have HM : Hid (∀ j, j < k * 5 → f' j = zs ss j) := hmk
      have HB2 : Hid (Below w.heap.size w wr) := hbl
      clear hcell hlt hb hf hmk hbl hrel
      go_wp2_with (go_at_call 61; (with_reducible refine (i6 _).mono ?_); rintro e x1 ⟨rfl, hb1⟩; have h3 := own_below HF.out hb1; have d0 := own5_cell h3 (j := k * 5) (by omega); have d1 := own5_cell h3 (j := k * 5 + 1) (by omega); have d2 := own5_cell h3 (j := k * 5 + 2) (by omega); have d3 := own5_cell h3 (j := k * 5 + 3) (by omega); have d4 := own5_cell h3 (j := k * 5 + 4) (by omega); have z0 := World.ownsRow.frozenAt h3 (k * 5); have z1 := World.ownsRow.frozenAt h3 (k * 5 + 1); have z2 := World.ownsRow.frozenAt h3 (k * 5 + 2); have z3 := World.ownsRow.frozenAt h3 (k * 5 + 3); have z4 := World.ownsRow.frozenAt h3 (k * 5 + 4); have st := (World.ownsRow.stored (World.ownsRow.stored (World.ownsRow.stored (World.ownsRow.stored (World.ownsRow.stored h3 (k * 5) (.int .i64 (ss k).fr)).1 (k * 5 + 1) (.int .i64 (ss k).to)).1 (k * 5 + 2) (.int .i64 (ss k).gi)).1 (k * 5 + 3) (.int .i64 (ss k).ta)).1 (k * 5 + 4) (.int .i64 (ss k).ha)).1; rw [ils_put, ils_put, ils_put, ils_put, ils_put] at st; have OP : Hid _ := st; have BP : Hid (Below w.heap.size w (((((x1.setCell ⟨w.heap.size, k * 5, none⟩ (.int .i64 (ss k).fr)).setCell ⟨w.heap.size, k * 5 + 1, none⟩ (.int .i64 (ss k).to)).setCell ⟨w.heap.size, k * 5 + 2, none⟩ (.int .i64 (ss k).gi)).setCell ⟨w.heap.size, k * 5 + 3, none⟩ (.int .i64 (ss k).ta)).setCell ⟨w.heap.size, k * 5 + 4, none⟩ (.int .i64 (ss k).ha))) := (bstep HB2.out hb1).trans ((((((Below.refl _ _).setCell (p := ⟨w.heap.size, k * 5, none⟩) (Nat.le_refl _) (.int .i64 (ss k).fr)).setCell (p := ⟨w.heap.size, k * 5 + 1, none⟩) (Nat.le_refl _) (.int .i64 (ss k).to)).setCell (p := ⟨w.heap.size, k * 5 + 2, none⟩) (Nat.le_refl _) (.int .i64 (ss k).gi)).setCell (p := ⟨w.heap.size, k * 5 + 3, none⟩) (Nat.le_refl _) (.int .i64 (ss k).ta)).setCell (p := ⟨w.heap.size, k * 5 + 4, none⟩) (Nat.le_refl _) (.int .i64 (ss k).ha)); clear st h3 hb1)
      go_roundw
      case rel =>
        refine ⟨k + 1, by go_num, by omega, ⟨_, OP.out, fun i hi => ?_⟩, BP.out⟩
        by_cases e4 : i = k * 5 + 4
        · subst e4; rw [if_pos rfl, zs_at ss k 4 (by omega)]; rfl
        by_cases e3 : i = k * 5 + 3
        · subst e3; rw [if_neg e4, if_pos rfl, zs_at ss k 3 (by omega)]; rfl
        by_cases e2 : i = k * 5 + 2
        · subst e2; rw [if_neg e4, if_neg e3, if_pos rfl, zs_at ss k 2 (by omega)]; rfl
        by_cases e1 : i = k * 5 + 1
        · subst e1; rw [if_neg e4, if_neg e3, if_neg e2, if_pos rfl, zs_at ss k 1 (by omega)]; rfl
        by_cases e0 : i = k * 5
        · subst e0; rw [if_neg e4, if_neg e3, if_neg e2, if_neg e1, if_pos rfl]; exact (zs_at ss k 0 (by omega)).symm
        rw [if_neg e4, if_neg e3, if_neg e2, if_neg e1, if_neg e0]
        exact HM.out i (by omega)
      case measure => simp [intOf]; omega
    · obtain rfl : k = n := by omega
      rw [ils_congr hmk] at hf
      have HR2 : Hid _ := hf
      have HB2 : Hid (Below w.heap.size w wr) := hbl
      clear hf hmk hbl hrel
      go_wp2
      go_ret
      exact ⟨HB2.out, _, rfl, HR2.out⟩
end Go.Proofs.Ytlccicbgepfbbaa
