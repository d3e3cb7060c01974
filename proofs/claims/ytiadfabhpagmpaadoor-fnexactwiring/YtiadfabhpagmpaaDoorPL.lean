/- Plans handed over. -/
import Derived.Test.YtiadfabhpagmpaaDoorPK
import Derived.Test.YtiadfabhpagmpaaDoorPF
import Derived.WalkKit
import Derived.WalkSpells
import Derived.WalkLawsBesides
import Derived.Deep.QuietTactic
import Derived.BigQuiet
import Derived.BigRegion
import Derived.Deep.Cut
namespace Go.Proofs.YtiadfabhpagmpaaDoor
open Go.RowKit

theorem vls_put (f : Nat → Value) (n j : Nat) (y : Value) : (vls f n).set j y = vls (fun i => if i = j then y else f i) n := by
  apply List.ext_getElem
  · simp [vls]
  · intro i h1 h2
    simp only [vls, List.getElem_set, List.getElem_map, List.getElem_range]
    by_cases h : j = i
    · subst h; simp
    · simp [h, Ne.symm h]

theorem made3 (n : Nat) : (madeCells (Value.agg #[.string ⟨#[]⟩, .int .i64 0, .int .i64 0]).cells (n * 3)).toList = vls (ndc (fun _ => ⟨⟨#[]⟩, 0, 0⟩)) (n * 3) := by
  have e : (Value.agg #[.string ⟨#[]⟩, .int .i64 0, .int .i64 0]).cells = #[.string ⟨#[]⟩, .int .i64 0, .int .i64 0] := by simp [Value.cells]
  rw [e]
  apply List.ext_getElem
  · simp [madeCells, vls]
  · intro i h1 h2
    have h5 : i % 3 < 3 := Nat.mod_lt _ (by decide)
    simp only [madeCells, vls, ndc, Array.toList_map, List.getElem_map]
    simp
    match i % 3, h5 with
    | 0, _ => rfl
    | 1, _ => rfl
    | 2, _ => rfl

theorem made2 (n : Nat) : (madeCells (Value.agg #[.int .i64 0, .int .i64 0]).cells (n * 2)).toList = vls (lkc (fun _ => ⟨0, 0⟩)) (n * 2) := by
  have e : (Value.agg #[.int .i64 0, .int .i64 0]).cells = #[.int .i64 0, .int .i64 0] := by simp [Value.cells]
  rw [e]
  apply List.ext_getElem
  · simp [madeCells, vls]
  · intro i h1 h2
    have h5 : i % 2 < 2 := Nat.mod_lt _ (by decide)
    simp only [madeCells, vls, lkc, Array.toList_map, List.getElem_map]
    simp
    match i % 2, h5 with
    | 0, _ => rfl
    | 1, _ => rfl

theorem toNode_any (x : Nd) (w : World) : Calls Tryd.prog 36 #[x.v] w fun e w' => e = .returned x.v ∧ Below w.heap.size w w' := by
  have hb : Below w.heap.size w (((w.alloc (.cells #[.string x.nm, .int .i64 x.kd, .int .i64 x.nn] 71)).alloc (.cells #[.string x.nm, .int .i64 x.kd, .int .i64 x.nn] 47)).alloc (.cells #[.string x.nm, .int .i64 x.kd, .int .i64 x.nn] 47)) := bstep (bstep (below_one _ _) (below_one _ _)) (below_one _ _)
  go_enter Tryd.func36, Tryd.ntmps36
  go_wp2
  refine bodyPost_ret (v := x.v) (by simp [results, go_sem]) rfl ?_
  exact ⟨rfl, hb⟩

theorem toLink_any (x : Lk) (w : World) : Calls Tryd.prog 37 #[x.v] w fun e w' => e = .returned x.v ∧ Below w.heap.size w w' := by
  have hb : Below w.heap.size w (((w.alloc (.cells #[.int .i64 x.fr, .int .i64 x.to] 76)).alloc (.cells #[.int .i64 x.fr, .int .i64 x.to] 50)).alloc (.cells #[.int .i64 x.fr, .int .i64 x.to] 50)) := bstep (bstep (below_one _ _) (below_one _ _)) (below_one _ _)
  go_enter Tryd.func37, Tryd.ntmps37
  go_wp2
  refine bodyPost_ret (v := x.v) (by simp [results, go_sem]) rfl ?_
  exact ⟨rfl, hb⟩

set_option maxHeartbeats 4000000 in
theorem toNodes_any {w : World} {v : Value} {n : Nat} {ns : Nat → Nd} (hv : Nl w v n ns) (hn : n ≤ 1048576) :
    Calls Tryd.prog 22 #[v] w fun e w' => Below w.heap.size w w' ∧ ∃ v', e = .returned v' ∧ w'.ownsRow w.heap.size 47 3 v' n (vls (ndc ns) (n * 3)) := by
  obtain ⟨i0, hi, hz0, hz1, hz2⟩ := info_parts infoN
  obtain ⟨ao, cap, rfl, hcap⟩ := hv.open
  have HC : Hid (0 < n → ∃ b off, ao = some ⟨b, off, none⟩ ∧ b < w.heap.size ∧ ∀ k, k < n → w.cell? ⟨b, off + k * 3, none⟩ = some (.string (ns k).nm) ∧ w.cell? ⟨b, off + k * 3 + 1, none⟩ = some (.int .i64 (ns k).kd) ∧ w.cell? ⟨b, off + k * 3 + 2, none⟩ = some (.int .i64 (ns k).nn)) := hv.cells
  clear hv
  obtain ⟨w1, hm, hrow, hgr⟩ := run_makeSlice_full (P := Tryd.prog) w w.heap.size 28 47 i0 (.agg #[.string ⟨#[]⟩, .int .i64 0, .int .i64 0]) 3 Tryd.underlying28 hi hz0 hz1 .i64 .i64 n (by omega) (by rw [hz2]; omega) (by unfold maxLen; omega) (Nat.le_refl _)
  have hbl : Below w.heap.size w w1 := (Below.refl _ _).grown hgr (Nat.le_refl _) (fun _ h => by cases h)
  rw [made3] at hrow
  have HR : Hid (w1.ownsRow w.heap.size 47 3 (.slice (some ⟨w.heap.size, 0, none⟩) n n) n (vls (ndc (fun _ => ⟨⟨#[]⟩, 0, 0⟩)) (n * 3))) := hrow
  have HB : Hid (Below w.heap.size w w1) := hbl
  clear hrow hbl hgr hi hz0 hz1 hz2
  go_enter Tryd.func22, Tryd.ntmps22
  go_wp2
  go_loopw [4] (fun i wr => ∃ k : Nat, i = .int .i64 k ∧ k ≤ n ∧ Hid ((∃ f', wr.ownsRow w.heap.size 47 3 (.slice (some ⟨w.heap.size, 0, none⟩) n n) n (vls f' (n * 3)) ∧ ∀ j, j < k * 3 → f' j = ndc ns j) ∧ Below w.heap.size w wr)) (fun i _ => n - (intOf i).toNat)
  case atStart => exact ⟨0, rfl, by omega, ⟨_, HR.out, fun j hj => by omega⟩, HB.out⟩
  case round =>
    obtain ⟨k, rfl, hk, hrel⟩ := hrel
    obtain ⟨⟨f', hf, hmk⟩, hbl⟩ := hrel.out
    by_cases h1 : k < n
    · obtain ⟨b, off, rfl, hlt, hcell⟩ := HC.out (by omega)
      obtain ⟨c0, c1, c2⟩ := hcell k h1
      have c0 := (hbl.cell (p := ⟨b, off + k * 3, none⟩) hlt).trans c0
      have c1 := (hbl.cell (p := ⟨b, off + k * 3 + 1, none⟩) hlt).trans c1
      have c2 := (hbl.cell (p := ⟨b, off + k * 3 + 2, none⟩) hlt).trans c2
      have hb2 : b < wr.heap.size := Nat.lt_of_lt_of_le hlt hbl.size
      have i6 := toNode_any (ns k)
      have HF : Hid (wr.ownsRow w.heap.size 47 3 (.slice (some ⟨w.heap.size, 0, none⟩) n n) n (vls f' (n * 3))) := hf
      have HM : Hid (∀ j, j < k * 3 → f' j = ndc ns j) := hmk
      have HB2 : Hid (Below w.heap.size w wr) := hbl
      clear hcell hlt hf hmk hbl hrel
      go_wp2_with (go_at_call 36; (with_reducible refine (i6 _).mono ?_); rintro e x1 ⟨rfl, hb1⟩; have h3 := own_below HF.out hb1; have d0 := World.ownsRow.cellAt h3 (k * 3) (by omega); have d1 := World.ownsRow.cellAt h3 (k * 3 + 1) (by omega); have d2 := World.ownsRow.cellAt h3 (k * 3 + 2) (by omega); rw [vls_get (by omega)] at d0 d1 d2; have z0 := World.ownsRow.frozenAt h3 (k * 3); have z1 := World.ownsRow.frozenAt h3 (k * 3 + 1); have z2 := World.ownsRow.frozenAt h3 (k * 3 + 2); have st := (World.ownsRow.stored (World.ownsRow.stored (World.ownsRow.stored h3 (k * 3) (.string (ns k).nm)).1 (k * 3 + 1) (.int .i64 (ns k).kd)).1 (k * 3 + 2) (.int .i64 (ns k).nn)).1; rw [vls_put, vls_put, vls_put] at st; have OP : Hid _ := st; have BP : Hid (Below w.heap.size w (((x1.setCell ⟨w.heap.size, k * 3, none⟩ (.string (ns k).nm)).setCell ⟨w.heap.size, k * 3 + 1, none⟩ (.int .i64 (ns k).kd)).setCell ⟨w.heap.size, k * 3 + 2, none⟩ (.int .i64 (ns k).nn))) := (bstep HB2.out hb1).trans ((((Below.refl _ _).setCell (p := ⟨w.heap.size, k * 3, none⟩) (Nat.le_refl _) (.string (ns k).nm)).setCell (p := ⟨w.heap.size, k * 3 + 1, none⟩) (Nat.le_refl _) (.int .i64 (ns k).kd)).setCell (p := ⟨w.heap.size, k * 3 + 2, none⟩) (Nat.le_refl _) (.int .i64 (ns k).nn)); clear st h3 hb1)
      go_roundw
      case rel =>
        refine ⟨k + 1, by go_num, by omega, ⟨_, OP.out, fun i hi => ?_⟩, BP.out⟩
        by_cases e2 : i = k * 3 + 2
        · subst e2; rw [if_pos rfl, ndc_2]
        by_cases e1 : i = k * 3 + 1
        · subst e1; rw [if_neg e2, if_pos rfl, ndc_1]
        by_cases e0 : i = k * 3
        · subst e0; rw [if_neg e2, if_neg e1, if_pos rfl, ndc_0]
        rw [if_neg e2, if_neg e1, if_neg e0]
        exact HM.out i (by omega)
      case measure => simp [intOf]; omega
    · have hkn : n = k := by omega
      subst hkn
      rw [vls_congr hmk] at hf
      have HR2 : Hid (wr.ownsRow w.heap.size 47 3 (.slice (some ⟨w.heap.size, 0, none⟩) n n) n (vls (ndc ns) (n * 3))) := hf
      have HB2 : Hid (Below w.heap.size w wr) := hbl
      clear hf hmk hbl hrel
      go_wp2
      go_ret
      exact ⟨HB2.out, _, rfl, HR2.out⟩

set_option maxHeartbeats 4000000 in
theorem toLinks_any {w : World} {v : Value} {n : Nat} {ns : Nat → Lk} (hv : Ll w v n ns) (hn : n ≤ 1048576) :
    Calls Tryd.prog 23 #[v] w fun e w' => Below w.heap.size w w' ∧ ∃ v', e = .returned v' ∧ w'.ownsRow w.heap.size 50 2 v' n (vls (lkc ns) (n * 2)) := by
  obtain ⟨i0, hi, hz0, hz1, hz2⟩ := info_parts infoL
  obtain ⟨ao, cap, rfl, hcap⟩ := hv.open
  have HC : Hid (0 < n → ∃ b off, ao = some ⟨b, off, none⟩ ∧ b < w.heap.size ∧ ∀ k, k < n → w.cell? ⟨b, off + k * 2, none⟩ = some (.int .i64 (ns k).fr) ∧ w.cell? ⟨b, off + k * 2 + 1, none⟩ = some (.int .i64 (ns k).to)) := hv.cells
  clear hv
  obtain ⟨w1, hm, hrow, hgr⟩ := run_makeSlice_full (P := Tryd.prog) w w.heap.size 29 50 i0 (.agg #[.int .i64 0, .int .i64 0]) 2 Tryd.underlying29 hi hz0 hz1 .i64 .i64 n (by omega) (by rw [hz2]; omega) (by unfold maxLen; omega) (Nat.le_refl _)
  have hbl : Below w.heap.size w w1 := (Below.refl _ _).grown hgr (Nat.le_refl _) (fun _ h => by cases h)
  rw [made2] at hrow
  have HR : Hid (w1.ownsRow w.heap.size 50 2 (.slice (some ⟨w.heap.size, 0, none⟩) n n) n (vls (lkc (fun _ => ⟨0, 0⟩)) (n * 2))) := hrow
  have HB : Hid (Below w.heap.size w w1) := hbl
  clear hrow hbl hgr hi hz0 hz1 hz2
  go_enter Tryd.func23, Tryd.ntmps23
  go_wp2
  go_loopw [4] (fun i wr => ∃ k : Nat, i = .int .i64 k ∧ k ≤ n ∧ Hid ((∃ f', wr.ownsRow w.heap.size 50 2 (.slice (some ⟨w.heap.size, 0, none⟩) n n) n (vls f' (n * 2)) ∧ ∀ j, j < k * 2 → f' j = lkc ns j) ∧ Below w.heap.size w wr)) (fun i _ => n - (intOf i).toNat)
  case atStart => exact ⟨0, rfl, by omega, ⟨_, HR.out, fun j hj => by omega⟩, HB.out⟩
  case round =>
    obtain ⟨k, rfl, hk, hrel⟩ := hrel
    obtain ⟨⟨f', hf, hmk⟩, hbl⟩ := hrel.out
    by_cases h1 : k < n
    · obtain ⟨b, off, rfl, hlt, hcell⟩ := HC.out (by omega)
      obtain ⟨c0, c1⟩ := hcell k h1
      have c0 := (hbl.cell (p := ⟨b, off + k * 2, none⟩) hlt).trans c0
      have c1 := (hbl.cell (p := ⟨b, off + k * 2 + 1, none⟩) hlt).trans c1
      have hb2 : b < wr.heap.size := Nat.lt_of_lt_of_le hlt hbl.size
      have i6 := toLink_any (ns k)
      have HF : Hid (wr.ownsRow w.heap.size 50 2 (.slice (some ⟨w.heap.size, 0, none⟩) n n) n (vls f' (n * 2))) := hf
      have HM : Hid (∀ j, j < k * 2 → f' j = lkc ns j) := hmk
      have HB2 : Hid (Below w.heap.size w wr) := hbl
      clear hcell hlt hf hmk hbl hrel
      go_wp2_with (go_at_call 37; (with_reducible refine (i6 _).mono ?_); rintro e x1 ⟨rfl, hb1⟩; have h3 := own_below HF.out hb1; have d0 := World.ownsRow.cellAt h3 (k * 2) (by omega); have d1 := World.ownsRow.cellAt h3 (k * 2 + 1) (by omega); rw [vls_get (by omega)] at d0 d1; have z0 := World.ownsRow.frozenAt h3 (k * 2); have z1 := World.ownsRow.frozenAt h3 (k * 2 + 1); have st := (World.ownsRow.stored (World.ownsRow.stored h3 (k * 2) (.int .i64 (ns k).fr)).1 (k * 2 + 1) (.int .i64 (ns k).to)).1; rw [vls_put, vls_put] at st; have OP : Hid _ := st; have BP : Hid (Below w.heap.size w ((x1.setCell ⟨w.heap.size, k * 2, none⟩ (.int .i64 (ns k).fr)).setCell ⟨w.heap.size, k * 2 + 1, none⟩ (.int .i64 (ns k).to))) := (bstep HB2.out hb1).trans (((Below.refl _ _).setCell (p := ⟨w.heap.size, k * 2, none⟩) (Nat.le_refl _) (.int .i64 (ns k).fr)).setCell (p := ⟨w.heap.size, k * 2 + 1, none⟩) (Nat.le_refl _) (.int .i64 (ns k).to)); clear st h3 hb1)
      go_roundw
      case rel =>
        refine ⟨k + 1, by go_num, by omega, ⟨_, OP.out, fun i hi => ?_⟩, BP.out⟩
        by_cases e1 : i = k * 2 + 1
        · subst e1; rw [if_pos rfl, lkc_1]
        by_cases e0 : i = k * 2
        · subst e0; rw [if_neg e1, if_pos rfl, lkc_0]
        rw [if_neg e1, if_neg e0]
        exact HM.out i (by omega)
      case measure => simp [intOf]; omega
    · have hkn : n = k := by omega
      subst hkn
      rw [vls_congr hmk] at hf
      have HR2 : Hid (wr.ownsRow w.heap.size 50 2 (.slice (some ⟨w.heap.size, 0, none⟩) n n) n (vls (lkc ns) (n * 2))) := hf
      have HB2 : Hid (Below w.heap.size w wr) := hbl
      clear hf hmk hbl hrel
      go_wp2
      go_ret
      exact ⟨HB2.out, _, rfl, HR2.out⟩

end Go.Proofs.YtiadfabhpagmpaaDoor
