/- Weave and Unweave: both sides. -/
import Derived.Test.YtgahjkijmihmdaaWO
namespace Go.Proofs.Ytgahjkijmihmdaa
open Go.RowKit

theorem il_cells {w : World} {a : Option Addr} {n c : Nat} {xs : Nat → Int} (h : Il w (.slice a n c) n xs) : 0 < n → ∃ b off, a = some ⟨b, off, none⟩ ∧ b < w.heap.size ∧ ∀ k, k < n → w.cell? ⟨b, off + k, none⟩ = some (.int .i64 (xs k)) := by
  obtain ⟨ao, cap, e, _, hc⟩ := h
  injection e with e1 e2 e3
  subst e1
  exact hc

theorem apart_low {w : World} {B n g : Nat} {v : Value} {m c : Nat} {L : List Value} (h : w.ownsRow B 3 1 v n L) (hg : g < B) : Apart v (.slice (some ⟨g, 0, none⟩) m c) := by
  refine .inr (fun e => ?_)
  have := (World.ownsRow.lt h g e).2
  have := (World.ownsRow.lt h g e).1
  omega

theorem woven_any (n : Nat) (r : Int) (w : World) : Calls Try.prog 26 #[.int .i64 (n : Int), .int .i64 r] w fun e w' => e = .returned (.bool (decide (GWv n r))) ∧ w' = w := by
  obtain ⟨d, hd⟩ : ∃ d, d = decide (GWv n r) := ⟨_, rfl⟩
  rw [← hd]
  have HD : Hid _ := hd
  clear hd
  go_enter Try.func26, Try.ntmps26
  by_cases h : n ≤ 1024
  · by_cases h1 : 1 ≤ r
    · by_cases h2 : r ≤ 64
      · go_wp2
        go_ret
        exact ⟨congrArg (fun z => Ending.returned (.bool z)) (by rw [HD.out]; exact (decide_eq_true ⟨h, h1, h2⟩).symm), rfl⟩
      · go_wp2
        go_ret
        exact ⟨congrArg (fun z => Ending.returned (.bool z)) (by rw [HD.out]; exact (decide_eq_false (fun h9 => absurd h9.2.2 (by omega))).symm), rfl⟩
    · go_wp2
      go_ret
      exact ⟨congrArg (fun z => Ending.returned (.bool z)) (by rw [HD.out]; exact (decide_eq_false (fun h9 => absurd h9.2.1 (by omega))).symm), rfl⟩
  · go_wp2
    go_ret
    exact ⟨congrArg (fun z => Ending.returned (.bool z)) (by rw [HD.out]; exact (decide_eq_false (fun h9 => absurd h9.1 (by omega))).symm), rfl⟩

set_option maxHeartbeats 8000000 in
theorem iWeave_good {w : World} {v : Value} {n r : Nat} {xs : Nat → Int} (hv : Il w v n xs) (h : GWv n (r : Int)) :
    Calls Try.prog 11 #[v, .int .i64 (r : Int)] w fun e w' => Pst w w' e n (wvf n r xs) true := by
  have h' := h
  obtain ⟨h1, h2, h3⟩ := h
  have i1 := woven_any n (r : Int)
  rw [decide_eq_true h'] at i1
  have i2 := iOrd_any (w := (mkd w n)) (n := n) (r := r) h1 (by omega) (by omega)
  have hr := mkd_run w (k := n) (by omega)
  have OW : Hid ((mkd w n).ownsRow w.heap.size 3 1 (.slice (some ⟨w.heap.size, 0, none⟩) n n) n (ils (fun i => if i < 0 then xs (pla n r i) else 0) n)) := mkd_own w (by omega) (Nat.le_refl _)
  have BL : Hid (Below w.heap.size w (mkd w n)) := mkd_below _ _
  have hsz : Hid ((mkd w n).heap.size = w.heap.size + 1) := mkd_size _ _
  obtain ⟨ao, cap, rfl, hcap, hc⟩ := hv
  have HC : Hid (0 < n → ∃ b off, ao = some ⟨b, off, none⟩ ∧ b < w.heap.size ∧ ∀ k, k < n → w.cell? ⟨b, off + k, none⟩ = some (.int .i64 (xs k))) := hc
  clear hc h'
  go_enter Try.func11, Try.ntmps11
  go_wp2_with (first | (go_at_call 26; (with_reducible refine (i1 _).mono ?_); rintro e w' ⟨rfl, hw⟩; obtain rfl := hw.symm) | (go_at_call 27; (with_reducible refine i2.mono ?_); rintro e W1 ⟨u, rfl, ho, hb⟩; have HP : Hid (W1.ownsRow (mkd w n).heap.size 3 1 u n (ils (plf (wov n r)) n)) := ho; have HB1 : Hid (Below (mkd w n).heap.size (mkd w n) W1) := hb; clear ho hb; obtain ⟨pa, pc, rfl⟩ := own_slice HP.out))
  clear i1 i2 hr
  generalize (mkd w n) = W0 at *
  go_loopw [7, 8, 23] (fun _ _ i wr => ∃ k : Nat, i = .int .i64 k ∧ k ≤ n ∧ Hid (wr.ownsRow w.heap.size 3 1 (.slice (some ⟨w.heap.size, 0, none⟩) n n) n (ils (fun i => if i < k then xs (pla n r i) else 0) n) ∧ Below w.heap.size w wr ∧ wr.ownsRow W0.heap.size 3 1 (.slice pa n pc) n (ils (plf (wov n r)) n))) (fun _ _ i _ => n - (intOf i).toNat)
  case atStart => exact ⟨0, rfl, by omega, own_below OW.out HB1.out, bstep BL.out HB1.out, HP.out⟩
  case round =>
    clear OW BL HP HB1
    obtain ⟨k, rfl, hk, hrel⟩ := hrel
    by_cases h4 : k < n
    · obtain ⟨b, off, rfl, hlt, hcell⟩ := HC.out (by omega)
      obtain ⟨b2, off2, rfl, hlt2, hcell2⟩ := il_cells (il_of_own hrel.out.2.2) (by omega)
      obtain ⟨q, hq⟩ : ∃ q : Nat, q = pla n r k := ⟨_, rfl⟩
      have hqn : q < n := by rw [hq]; exact pla_lt (by omega) h4
      have c2 := hcell2 k h4
      rw [plf_wov, ← hq] at c2
      have c := (hrel.out.2.1.cell (p := ⟨b, off + q, none⟩) hlt).trans (hcell q (by omega))
      have hrow := hrel.out.1
      have hfz := hrow.frozenAt k
      have hce := hrow.cellAt k (by omega)
      rw [ils_get (by omega)] at hce
      obtain ⟨z, hz⟩ : ∃ z, z = xs q := ⟨_, rfl⟩
      rw [← hz] at c
      obtain ⟨y, hce⟩ : ∃ y, wr.cell? ⟨w.heap.size, k, none⟩ = some (.int .i64 y) := ⟨_, hce⟩
      have st := (hrow.stored k (.int .i64 z)).1
      rw [ils_put] at st
      have HO4 : Hid ((wr.setCell ⟨w.heap.size, k, none⟩ (.int .i64 z)).ownsRow w.heap.size 3 1 (.slice (some ⟨w.heap.size, 0, none⟩) n n) n (ils (fun i => if i < (k + 1) then xs (pla n r i) else 0) n)) := by
        have h9 : ils (fun i => if i = k then z else (fun i => if i < k then xs (pla n r i) else 0) i) n = ils (fun i => if i < (k + 1) then xs (pla n r i) else 0) n := by
          refine ils_congr fun j hj => ?_
          show (if j = k then z else if j < k then xs (pla n r j) else 0) = if j < k + 1 then xs (pla n r j) else 0
          by_cases h5 : j = k
          · subst h5; rw [if_pos rfl, if_pos (by omega), hz, hq]
          · rw [if_neg h5]
            by_cases h6 : j < k
            · rw [if_pos h6, if_pos (by omega)]
            · rw [if_neg h6, if_neg (by omega)]
        rw [← h9]; exact st
      have HB4 : Hid (Below w.heap.size w (wr.setCell ⟨w.heap.size, k, none⟩ (.int .i64 z))) := hrel.out.2.1.setCell (p := ⟨w.heap.size, k, none⟩) (Nat.le_refl _) (.int .i64 z)
      have HP4 : Hid ((wr.setCell ⟨w.heap.size, k, none⟩ (.int .i64 z)).ownsRow W0.heap.size 3 1 (.slice (some ⟨b2, off2, none⟩) n pc) n (ils (plf (wov n r)) n)) := own_only hrel.out.2.2 ((Only.refl w.heap.size wr).put k _) (by have := hsz.out; omega)
      clear hq hz hcell hcell2 hrel hrow st
      go_wp2
      go_roundw
      case rel => exact ⟨k + 1, by go_num, by omega, HO4.out, HB4.out, HP4.out⟩
      case measure => simp [intOf]; omega
    · obtain rfl : n = k := by omega
      have HF : Hid (wr.ownsRow w.heap.size 3 1 (.slice (some ⟨w.heap.size, 0, none⟩) n n) n (ils (wvf n r xs) n) ∧ Below w.heap.size w wr) := by
        refine ⟨?_, hrel.out.2.1⟩
        have h9 : ils (wvf n r xs) n = ils (fun i => if i < n then xs (pla n r i) else 0) n := by
          refine ils_congr fun j hj => ?_
          show xs (pla n r j) = if j < n then xs (pla n r j) else 0; rw [if_pos hj]
        rw [h9]; exact hrel.out.1
      clear hrel
      go_wp2
      go_ret2
      exact ⟨_, rfl, HF.out⟩

set_option maxHeartbeats 8000000 in
theorem iUnw_good {w : World} {v : Value} {n r : Nat} {xs : Nat → Int} (hv : Il w v n xs) (h : GWv n (r : Int)) :
    Calls Try.prog 13 #[v, .int .i64 (r : Int)] w fun e w' => Pst w w' e n (uwf n r xs n) true := by
  have h' := h
  obtain ⟨h1, h2, h3⟩ := h
  have i1 := woven_any n (r : Int)
  rw [decide_eq_true h'] at i1
  have i2 := iOrd_any (w := (mkd w n)) (n := n) (r := r) h1 (by omega) (by omega)
  have hr := mkd_run w (k := n) (by omega)
  have OW : Hid ((mkd w n).ownsRow w.heap.size 3 1 (.slice (some ⟨w.heap.size, 0, none⟩) n n) n (ils (uwf n r xs 0) n)) := mkd_own w (by omega) (Nat.le_refl _)
  have BL : Hid (Below w.heap.size w (mkd w n)) := mkd_below _ _
  have hsz : Hid ((mkd w n).heap.size = w.heap.size + 1) := mkd_size _ _
  obtain ⟨ao, cap, rfl, hcap, hc⟩ := hv
  have HC : Hid (0 < n → ∃ b off, ao = some ⟨b, off, none⟩ ∧ b < w.heap.size ∧ ∀ k, k < n → w.cell? ⟨b, off + k, none⟩ = some (.int .i64 (xs k))) := hc
  clear hc h'
  go_enter Try.func13, Try.ntmps13
  go_wp2_with (first | (go_at_call 26; (with_reducible refine (i1 _).mono ?_); rintro e w' ⟨rfl, hw⟩; obtain rfl := hw.symm) | (go_at_call 27; (with_reducible refine i2.mono ?_); rintro e W1 ⟨u, rfl, ho, hb⟩; have HP : Hid (W1.ownsRow (mkd w n).heap.size 3 1 u n (ils (plf (wov n r)) n)) := ho; have HB1 : Hid (Below (mkd w n).heap.size (mkd w n) W1) := hb; clear ho hb; obtain ⟨pa, pc, rfl⟩ := own_slice HP.out))
  clear i1 i2 hr
  generalize (mkd w n) = W0 at *
  go_loopw [7, 8, 23] (fun _ _ i wr => ∃ k : Nat, i = .int .i64 k ∧ k ≤ n ∧ Hid (wr.ownsRow w.heap.size 3 1 (.slice (some ⟨w.heap.size, 0, none⟩) n n) n (ils (uwf n r xs k) n) ∧ Below w.heap.size w wr ∧ wr.ownsRow W0.heap.size 3 1 (.slice pa n pc) n (ils (plf (wov n r)) n))) (fun _ _ i _ => n - (intOf i).toNat)
  case atStart => exact ⟨0, rfl, by omega, own_below OW.out HB1.out, bstep BL.out HB1.out, HP.out⟩
  case round =>
    clear OW BL HP HB1
    obtain ⟨k, rfl, hk, hrel⟩ := hrel
    by_cases h4 : k < n
    · obtain ⟨b, off, rfl, hlt, hcell⟩ := HC.out (by omega)
      obtain ⟨b2, off2, rfl, hlt2, hcell2⟩ := il_cells (il_of_own hrel.out.2.2) (by omega)
      obtain ⟨q, hq⟩ : ∃ q : Nat, q = pla n r k := ⟨_, rfl⟩
      have hqn : q < n := by rw [hq]; exact pla_lt (by omega) h4
      have c2 := hcell2 k h4
      rw [plf_wov, ← hq] at c2
      have c := (hrel.out.2.1.cell (p := ⟨b, off + k, none⟩) hlt).trans (hcell k (by omega))
      have hrow := hrel.out.1
      have hfz := hrow.frozenAt q
      have hce := hrow.cellAt q (by omega)
      rw [ils_get (by omega)] at hce
      obtain ⟨z, hz⟩ : ∃ z, z = xs k := ⟨_, rfl⟩
      rw [← hz] at c
      obtain ⟨y, hce⟩ : ∃ y, wr.cell? ⟨w.heap.size, q, none⟩ = some (.int .i64 y) := ⟨_, hce⟩
      have st := (hrow.stored q (.int .i64 z)).1
      rw [ils_put] at st
      have HO4 : Hid ((wr.setCell ⟨w.heap.size, q, none⟩ (.int .i64 z)).ownsRow w.heap.size 3 1 (.slice (some ⟨w.heap.size, 0, none⟩) n n) n (ils (uwf n r xs (k + 1)) n)) := by
        have h9 : ils (fun i => if i = q then z else (uwf n r xs k) i) n = ils (uwf n r xs (k + 1)) n := by
          refine ils_congr fun j hj => ?_
          show (if j = q then z else uwf n r xs k j) = if j = pla n r k then xs k else uwf n r xs k j; rw [hq, hz]
        rw [← h9]; exact st
      have HB4 : Hid (Below w.heap.size w (wr.setCell ⟨w.heap.size, q, none⟩ (.int .i64 z))) := hrel.out.2.1.setCell (p := ⟨w.heap.size, q, none⟩) (Nat.le_refl _) (.int .i64 z)
      have HP4 : Hid ((wr.setCell ⟨w.heap.size, q, none⟩ (.int .i64 z)).ownsRow W0.heap.size 3 1 (.slice (some ⟨b2, off2, none⟩) n pc) n (ils (plf (wov n r)) n)) := own_only hrel.out.2.2 ((Only.refl w.heap.size wr).put q _) (by have := hsz.out; omega)
      clear hq hz hcell hcell2 hrel hrow st
      go_wp2
      go_roundw
      case rel => exact ⟨k + 1, by go_num, by omega, HO4.out, HB4.out, HP4.out⟩
      case measure => simp [intOf]; omega
    · obtain rfl : n = k := by omega
      have HF : Hid (wr.ownsRow w.heap.size 3 1 (.slice (some ⟨w.heap.size, 0, none⟩) n n) n (ils (uwf n r xs n) n) ∧ Below w.heap.size w wr) := by
        refine ⟨?_, hrel.out.2.1⟩
        have h9 : ils (uwf n r xs n) n = ils (uwf n r xs n) n := by
          refine ils_congr fun j hj => ?_
          rfl
        rw [h9]; exact hrel.out.1
      clear hrel
      go_wp2
      go_ret2
      exact ⟨_, rfl, HF.out⟩

set_option maxHeartbeats 2000000 in
theorem iWeave_bad {w : World} {v : Value} {n : Nat} {xs : Nat → Int} {r : Int} (hv : Il w v n xs) (_ : n ≤ 1048576) (h : ¬ GWv n r) (ys : Nat → Int) :
    Calls Try.prog 11 #[v, .int .i64 r] w fun e w' => Pst w w' e 0 ys false := by
  have i1 := woven_any n r
  obtain ⟨ao, cap, rfl, hcap, hc⟩ := hv
  clear hc
  rw [decide_eq_false (fun c1 => h c1)] at i1
  clear h
  go_enter Try.func11, Try.ntmps11
  go_wp2_with (first | (go_at_call 26; (with_reducible refine (i1 _).mono ?_); rintro e w' ⟨rfl, hw⟩; obtain rfl := hw.symm))
  go_ret2
  exact ⟨_, rfl, own_empty w 3 1, below_one _ _⟩
set_option maxHeartbeats 2000000 in
theorem iUnw_bad {w : World} {v : Value} {n : Nat} {xs : Nat → Int} {r : Int} (hv : Il w v n xs) (_ : n ≤ 1048576) (h : ¬ GWv n r) (ys : Nat → Int) :
    Calls Try.prog 13 #[v, .int .i64 r] w fun e w' => Pst w w' e 0 ys false := by
  have i1 := woven_any n r
  obtain ⟨ao, cap, rfl, hcap, hc⟩ := hv
  clear hc
  rw [decide_eq_false (fun c1 => h c1)] at i1
  clear h
  go_enter Try.func13, Try.ntmps13
  go_wp2_with (first | (go_at_call 26; (with_reducible refine (i1 _).mono ?_); rintro e w' ⟨rfl, hw⟩; obtain rfl := hw.symm))
  go_ret2
  exact ⟨_, rfl, own_empty w 3 1, below_one _ _⟩
end Go.Proofs.Ytgahjkijmihmdaa
