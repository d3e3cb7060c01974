/- Points handed over. -/
import Derived.Test.YtlcfcdpgggocnaaPA
import Derived.Test.YtlcfcdpgggocnaaAW
namespace Go.Proofs.Ytlcfcdpgggocnaa
open Go.RowKit

theorem made2 (n : Nat) : (madeCells (Value.agg #[.int .i64 0, .int .i64 0]).cells (n * 2)).toList = ils (fun _ => 0) (n * 2) := by
  have e : (Value.agg #[.int .i64 0, .int .i64 0]).cells = #[.int .i64 0, .int .i64 0] := by simp [Value.cells]
  rw [e]
  apply List.ext_getElem
  · simp [madeCells, ils]
  · intro i h1 h2
    have h5 : i % 2 < 2 := Nat.mod_lt _ (by decide)
    simp only [madeCells, ils, Array.toList_map, List.getElem_map]
    simp
    match i % 2, h5 with
    | 0, _ => rfl
    | 1, _ => rfl

theorem toPoint_any (x y : Int) (w : World) : Calls Try.prog 14 #[.agg #[.int .i64 x, .int .i64 y]] w fun e w' => e = .returned (.agg #[.int .i64 x, .int .i64 y]) ∧ Below w.heap.size w w' := by
  have hb : Below w.heap.size w (((w.alloc (.cells #[.int .i64 x, .int .i64 y] 37)).alloc (.cells #[.int .i64 x, .int .i64 y] 34)).alloc (.cells #[.int .i64 x, .int .i64 y] 34)) := bstep (bstep (below_one _ _) (below_one _ _)) (below_one _ _)
  go_enter Try.func14, Try.ntmps14
  go_wp2
  refine bodyPost_ret (v := .agg #[.int .i64 x, .int .i64 y]) (by simp [results, Try.results14, go_sem]) rfl ?_
  exact ⟨rfl, hb⟩

set_option maxHeartbeats 4000000 in
theorem copy2_own {w : World} {v : Value} {n : Nat} {z : Nat → Int} (hv : Il2 w v n z) (hn : n ≤ 1048576) :
    Calls Try.prog 6 #[v] w fun e w' => Below w.heap.size w w' ∧ ∃ v', e = .returned v' ∧ Il2 w' v' n z ∧ w'.ownsRow w.heap.size 34 2 v' n (ils z (n * 2)) := by
  obtain ⟨i0, hi, hz0, hz1, hz2⟩ := info_parts Try.info34
  obtain ⟨ao, cap, rfl, hcap, hc⟩ := hv
  have HC : Hid (0 < n → ∃ b off, ao = some ⟨b, off, none⟩ ∧ b < w.heap.size ∧ ∀ k, k < n → w.cell? ⟨b, off + k * 2, none⟩ = some (.int .i64 (z (k * 2))) ∧ w.cell? ⟨b, off + k * 2 + 1, none⟩ = some (.int .i64 (z (k * 2 + 1)))) := hc
  clear hc
  obtain ⟨w1, hm, hrow, hgr⟩ := run_makeSlice_full (P := Try.prog) w w.heap.size 24 34 i0 (.agg #[.int .i64 0, .int .i64 0]) 2 Try.underlying24 hi hz0 hz1 .i64 .i64 n (by omega) (by rw [hz2]; omega) (by unfold maxLen; omega) (Nat.le_refl _)
  have hbl : Below w.heap.size w w1 := (Below.refl _ _).grown hgr (Nat.le_refl _) (fun _ h => by cases h)
  rw [made2] at hrow
  have HR : Hid (w1.ownsRow w.heap.size 34 2 (.slice (some ⟨w.heap.size, 0, none⟩) n n) n (ils (fun _ => 0) (n * 2))) := hrow
  have HB : Hid (Below w.heap.size w w1) := hbl
  clear hrow hbl hgr hi hz0 hz1 hz2
  go_enter Try.func6, Try.ntmps6
  go_wp2
  go_loopw [4] (fun i wr => ∃ k : Nat, i = .int .i64 k ∧ k ≤ n ∧ Hid ((∃ f', wr.ownsRow w.heap.size 34 2 (.slice (some ⟨w.heap.size, 0, none⟩) n n) n (ils f' (n * 2)) ∧ ∀ j, j < k * 2 → f' j = z j) ∧ Below w.heap.size w wr)) (fun i _ => n - (intOf i).toNat)
  case atStart => exact ⟨0, rfl, by omega, ⟨_, HR.out, fun j hj => by omega⟩, HB.out⟩
  case round =>
    obtain ⟨k, rfl, hk, hrel⟩ := hrel
    obtain ⟨⟨f', hf, hmk⟩, hbl⟩ := hrel.out
    by_cases h1 : k < n
    · obtain ⟨b, off, rfl, hlt, hcell⟩ := HC.out (by omega)
      have c0 := (hbl.cell (p := ⟨b, off + k * 2, none⟩) hlt).trans (hcell k h1).1
      have c1 := (hbl.cell (p := ⟨b, off + k * 2 + 1, none⟩) hlt).trans (hcell k h1).2
      obtain ⟨x, hx⟩ : ∃ x, x = z (k * 2) := ⟨_, rfl⟩
      obtain ⟨y, hy⟩ : ∃ y, y = z (k * 2 + 1) := ⟨_, rfl⟩
      rw [← hx] at c0
      rw [← hy] at c1
      have HX : Hid (x = z (k * 2) ∧ y = z (k * 2 + 1)) := ⟨hx, hy⟩
      have i6 := toPoint_any x y
      have HF : Hid (wr.ownsRow w.heap.size 34 2 (.slice (some ⟨w.heap.size, 0, none⟩) n n) n (ils f' (n * 2))) := hf
      have HM : Hid (∀ j, j < k * 2 → f' j = z j) := hmk
      have HB2 : Hid (Below w.heap.size w wr) := hbl
      clear hcell hlt hx hy hf hmk hbl hrel
      go_wp2_with (go_at_call 14; (with_reducible refine (i6 _).mono ?_); rintro e x1 ⟨rfl, hb1⟩; have h3 := own_below HF.out hb1; have d0 := own2_cell h3 (j := k * 2) (by omega); have d1 := own2_cell h3 (j := k * 2 + 1) (by omega); have z0 := World.ownsRow.frozenAt h3 (k * 2); have z1 := World.ownsRow.frozenAt h3 (k * 2 + 1); have st := (World.ownsRow.stored (World.ownsRow.stored h3 (k * 2) (.int .i64 x)).1 (k * 2 + 1) (.int .i64 y)).1; rw [ils_put, ils_put] at st; have OP : Hid (((x1.setCell ⟨w.heap.size, k * 2, none⟩ (.int .i64 x)).setCell ⟨w.heap.size, k * 2 + 1, none⟩ (.int .i64 y)).ownsRow w.heap.size 34 2 (.slice (some ⟨w.heap.size, 0, none⟩) n n) n (ils (fun i => if i = k * 2 + 1 then y else if i = k * 2 then x else f' i) (n * 2))) := st; have BP : Hid (Below w.heap.size w ((x1.setCell ⟨w.heap.size, k * 2, none⟩ (.int .i64 x)).setCell ⟨w.heap.size, k * 2 + 1, none⟩ (.int .i64 y))) := (((bstep HB2.out hb1).setCell (p := ⟨w.heap.size, k * 2, none⟩) (Nat.le_refl _) (.int .i64 x)).setCell (p := ⟨w.heap.size, k * 2 + 1, none⟩) (Nat.le_refl _) (.int .i64 y)); clear st h3 hb1)
      go_roundw
      case rel =>
        refine ⟨k + 1, by go_num, by omega, ⟨_, OP.out, fun i hi => ?_⟩, BP.out⟩
        by_cases e1 : i = k * 2 + 1
        · subst e1; rw [if_pos rfl]; exact HX.out.2
        by_cases e0 : i = k * 2
        · subst e0; rw [if_neg e1, if_pos rfl]; exact HX.out.1
        rw [if_neg e1, if_neg e0]
        exact HM.out i (by omega)
      case measure => simp [intOf]; omega
    · obtain rfl : k = n := by omega
      rw [ils_congr hmk] at hf
      have HR2 : Hid (wr.ownsRow w.heap.size 34 2 (.slice (some ⟨w.heap.size, 0, none⟩) k k) k (ils z (k * 2))) := hf
      have HB2 : Hid (Below w.heap.size w wr) := hbl
      clear hf hmk hbl hrel
      go_wp2
      go_ret
      exact ⟨HB2.out, _, rfl, il2_of_own HR2.out, HR2.out⟩

theorem sz_any {n cap : Nat} {ao : Option Addr} (hn : n ≤ 9223372036854775807) (w : World) : Calls Try.prog 4 #[.slice ao n cap, .int .i64 1048576] w fun e w' => e = .returned (.int .i64 (if n ≤ 1048576 then 1048576 - (n : Int) else -1)) ∧ w' = w := by
  by_cases h : n ≤ 1048576
  · rw [if_pos h]
    go_enter Try.func4, Try.ntmps4
    go_wp2
    go_ret
    exact ⟨rfl, rfl⟩
  · rw [if_neg h]
    go_enter Try.func4, Try.ntmps4
    go_wp2
    go_ret
    exact ⟨rfl, rfl⟩
end Go.Proofs.Ytlcfcdpgggocnaa
