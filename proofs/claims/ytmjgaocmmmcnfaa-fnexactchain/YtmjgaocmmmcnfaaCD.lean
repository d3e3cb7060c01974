/- Sections handed over; what stands while the law of Chain goes on. -/
import Derived.Test.YtmjgaocmmmcnfaaCC
import Derived.Test.YtmjgaocmmmcnfaaIF
namespace Go.Proofs.Ytmjgaocmmmcnfaa
open Go.RowKit

set_option maxHeartbeats 4000000 in
theorem copy5 {w : World} {v : Value} {n : Nat} {ss : Nat → Se} (hv : Il5 w v n ss) (hn : n ≤ 1048576) :
    Calls Try.prog 16 #[v] w fun e w' => Below w.heap.size w w' ∧ ∃ v', e = .returned v' ∧ w'.ownsRow w.heap.size 30 5 v' n (ils (zs ss) (n * 5)) := by
  obtain ⟨i0, hi, hz0, hz1, hz2⟩ := info_parts Try.info30
  obtain ⟨ao, cap, rfl, hcap, hc⟩ := hv
  have HC : Hid (0 < n → ∃ b off, ao = some ⟨b, off, none⟩ ∧ b < w.heap.size ∧ ∀ k, k < n → w.cell? ⟨b, off + k * 5, none⟩ = some (.int .i64 (ss k).b0) ∧ w.cell? ⟨b, off + k * 5 + 1, none⟩ = some (.int .i64 (ss k).b1) ∧ w.cell? ⟨b, off + k * 5 + 2, none⟩ = some (.int .i64 (ss k).b2) ∧ w.cell? ⟨b, off + k * 5 + 3, none⟩ = some (.int .i64 (ss k).a1) ∧ w.cell? ⟨b, off + k * 5 + 4, none⟩ = some (.int .i64 (ss k).a2)) := hc
  clear hc
  obtain ⟨w1, hm, hrow, hgr⟩ := run_makeSlice_full (P := Try.prog) w w.heap.size 42 30 i0 (.agg #[.int .i64 0, .int .i64 0, .int .i64 0, .int .i64 0, .int .i64 0]) 5 Try.underlying42 hi hz0 hz1 .i64 .i64 n (by omega) (by rw [hz2]; omega) (by unfold maxLen; omega) (Nat.le_refl _)
  have hbl : Below w.heap.size w w1 := (Below.refl _ _).grown hgr (Nat.le_refl _) (fun _ h => by cases h)
  rw [made5] at hrow
  have HR : Hid (w1.ownsRow w.heap.size 30 5 (.slice (some ⟨w.heap.size, 0, none⟩) n n) n (ils (fun _ => 0) (n * 5))) := hrow
  have HB : Hid (Below w.heap.size w w1) := hbl
  clear hrow hbl hgr hi hz0 hz1 hz2
  go_enter Try.func16, Try.ntmps16
  go_wp2
  go_loopw [4] (fun i wr => ∃ k : Nat, i = .int .i64 k ∧ k ≤ n ∧ Hid ((∃ f', wr.ownsRow w.heap.size 30 5 (.slice (some ⟨w.heap.size, 0, none⟩) n n) n (ils f' (n * 5)) ∧ ∀ j, j < k * 5 → f' j = zs ss j) ∧ Below w.heap.size w wr)) (fun i _ => n - (intOf i).toNat)
  case atStart => exact ⟨0, rfl, by omega, ⟨_, HR.out, fun j hj => by omega⟩, HB.out⟩
  case round =>
    obtain ⟨k, rfl, hk, hrel⟩ := hrel
    obtain ⟨⟨f', hf, hmk⟩, hbl⟩ := hrel.out
    by_cases h1 : k < n
    · obtain ⟨b, off, rfl, hlt, hcell⟩ := HC.out (by omega)
      have hb := hbl
      obtain ⟨c0, c1, c2, c3, c4⟩ := hcell k h1
      obtain ⟨c0, c1, c2, c3, c4⟩ : wr.cell? ⟨b, off + k * 5, none⟩ = some (.int .i64 (ss k).b0) ∧ wr.cell? ⟨b, off + k * 5 + 1, none⟩ = some (.int .i64 (ss k).b1) ∧ wr.cell? ⟨b, off + k * 5 + 2, none⟩ = some (.int .i64 (ss k).b2) ∧ wr.cell? ⟨b, off + k * 5 + 3, none⟩ = some (.int .i64 (ss k).a1) ∧ wr.cell? ⟨b, off + k * 5 + 4, none⟩ = some (.int .i64 (ss k).a2) := ⟨(hb.cell (p := ⟨b, off + k * 5, none⟩) hlt).trans c0, (hb.cell (p := ⟨b, off + k * 5 + 1, none⟩) hlt).trans c1, (hb.cell (p := ⟨b, off + k * 5 + 2, none⟩) hlt).trans c2, (hb.cell (p := ⟨b, off + k * 5 + 3, none⟩) hlt).trans c3, (hb.cell (p := ⟨b, off + k * 5 + 4, none⟩) hlt).trans c4⟩
      have i6 := toSec_any (ss k)
      have HF : Hid _ := hf
      have HM : Hid (∀ j, j < k * 5 → f' j = zs ss j) := hmk
      have HB2 : Hid (Below w.heap.size w wr) := hbl
      clear hcell hlt hb hf hmk hbl hrel
      go_wp2_with (go_at_call 6; (with_reducible refine (i6 _).mono ?_); rintro e x1 ⟨rfl, hb1⟩; have h3 := own_below HF.out hb1; have d0 := own5_cell h3 (j := k * 5) (by omega); have d1 := own5_cell h3 (j := k * 5 + 1) (by omega); have d2 := own5_cell h3 (j := k * 5 + 2) (by omega); have d3 := own5_cell h3 (j := k * 5 + 3) (by omega); have d4 := own5_cell h3 (j := k * 5 + 4) (by omega); have z0 := World.ownsRow.frozenAt h3 (k * 5); have z1 := World.ownsRow.frozenAt h3 (k * 5 + 1); have z2 := World.ownsRow.frozenAt h3 (k * 5 + 2); have z3 := World.ownsRow.frozenAt h3 (k * 5 + 3); have z4 := World.ownsRow.frozenAt h3 (k * 5 + 4); have st := (World.ownsRow.stored (World.ownsRow.stored (World.ownsRow.stored (World.ownsRow.stored (World.ownsRow.stored h3 (k * 5) (.int .i64 (ss k).b0)).1 (k * 5 + 1) (.int .i64 (ss k).b1)).1 (k * 5 + 2) (.int .i64 (ss k).b2)).1 (k * 5 + 3) (.int .i64 (ss k).a1)).1 (k * 5 + 4) (.int .i64 (ss k).a2)).1; rw [ils_put, ils_put, ils_put, ils_put, ils_put] at st; have OP : Hid _ := st; have BP : Hid (Below w.heap.size w (((((x1.setCell ⟨w.heap.size, k * 5, none⟩ (.int .i64 (ss k).b0)).setCell ⟨w.heap.size, k * 5 + 1, none⟩ (.int .i64 (ss k).b1)).setCell ⟨w.heap.size, k * 5 + 2, none⟩ (.int .i64 (ss k).b2)).setCell ⟨w.heap.size, k * 5 + 3, none⟩ (.int .i64 (ss k).a1)).setCell ⟨w.heap.size, k * 5 + 4, none⟩ (.int .i64 (ss k).a2))) := (bstep HB2.out hb1).trans ((((((Below.refl _ _).setCell (p := ⟨w.heap.size, k * 5, none⟩) (Nat.le_refl _) (.int .i64 (ss k).b0)).setCell (p := ⟨w.heap.size, k * 5 + 1, none⟩) (Nat.le_refl _) (.int .i64 (ss k).b1)).setCell (p := ⟨w.heap.size, k * 5 + 2, none⟩) (Nat.le_refl _) (.int .i64 (ss k).b2)).setCell (p := ⟨w.heap.size, k * 5 + 3, none⟩) (Nat.le_refl _) (.int .i64 (ss k).a1)).setCell (p := ⟨w.heap.size, k * 5 + 4, none⟩) (Nat.le_refl _) (.int .i64 (ss k).a2)); clear st h3 hb1)
      go_roundw
      case rel =>
        refine ⟨k + 1, by go_num, by omega, ⟨_, OP.out, fun i hi => ?_⟩, BP.out⟩
        by_cases e4 : i = k * 5 + 4
        · subst e4; rw [if_pos rfl, zs_at ss k 4 (by omega)]; rfl
        by_cases e3 : i = k * 5 + 3
        · subst e3; rw [if_neg e4, if_pos rfl, zs_at ss k 3 (by omega)]; rfl
        by_cases e2 : i = k * 5 + 2
        · subst e2; rw [if_neg e4, if_neg e3, if_pos rfl, zs_at ss k 2 (by omega)]; rfl
        by_cases e1 : i = k * 5 + 1
        · subst e1; rw [if_neg e4, if_neg e3, if_neg e2, if_pos rfl, zs_at ss k 1 (by omega)]; rfl
        by_cases e0 : i = k * 5
        · subst e0; rw [if_neg e4, if_neg e3, if_neg e2, if_neg e1, if_pos rfl]; exact (zs_at ss k 0 (by omega)).symm
        rw [if_neg e4, if_neg e3, if_neg e2, if_neg e1, if_neg e0]
        exact HM.out i (by omega)
      case measure => simp [intOf]; omega
    · obtain rfl : k = n := by omega
      rw [ils_congr hmk] at hf
      have HR2 : Hid _ := hf
      have HB2 : Hid (Below w.heap.size w wr) := hbl
      clear hf hmk hbl hrel
      go_wp2
      go_ret
      exact ⟨HB2.out, _, rfl, HR2.out⟩

/-- What stands behind the program's first answer. -/
structure Tc (V0 V W : World) (gv : Value) (N : Nat) (f : Nat → Int) : Prop where
  b0 : Below V0.heap.size V0 W
  og : W.ownsRow V.heap.size 3 1 gv N (ils f N)
  sz : V.heap.size ≤ W.heap.size
  vz : V0.heap.size ≤ V.heap.size

theorem Tc.below {V0 V W W' : World} {gv : Value} {N : Nat} {f : Nat → Int} (h : Tc V0 V W gv N f) (hb : Below W.heap.size W W') : Tc V0 V W' gv N f :=
  ⟨bstep h.b0 hb, own_below h.og hb, Nat.le_trans h.sz hb.size, h.vz⟩

theorem own_onlyB {W W' : World} {B n g : Nat} {v : Value} {xs : List Value} (h : W.ownsRow B 3 1 v n xs) (ho : Only g W W') (hg : g < B) : W'.ownsRow B 3 1 v n xs := by
  refine ⟨h.1, ?_⟩
  rcases h.2 with h' | ⟨g', cap', cur, h', hb', hg', rest⟩
  · exact .inl h'
  · exact .inr ⟨g', cap', cur, h', hb', (ho.block g' (by omega)).trans hg', rest⟩

theorem Tc.onlyx {V0 V W W' : World} {gv : Value} {N g : Nat} {f : Nat → Int} (h : Tc V0 V W gv N f) (ho : Only g W W') (h1 : V0.heap.size ≤ g) (h2 : g < V.heap.size) : Tc V0 V W' gv N f :=
  ⟨Below.only h.b0 ho h1, own_onlyB h.og ho h2, Nat.le_trans h.sz ho.size, h.vz⟩

theorem Tc.onlyg {V0 V W W' : World} {gv : Value} {N g : Nat} {f f' : Nat → Int} (h : Tc V0 V W gv N f) (ho : Only g W W') (h1 : V.heap.size ≤ g) (hn : W'.ownsRow V.heap.size 3 1 gv N (ils f' N)) : Tc V0 V W' gv N f' :=
  ⟨Below.only h.b0 ho (Nat.le_trans h.vz h1), hn, Nat.le_trans h.sz ho.size, h.vz⟩
end Go.Proofs.Ytmjgaocmmmcnfaa
