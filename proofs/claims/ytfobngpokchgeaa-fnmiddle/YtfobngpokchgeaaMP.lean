/- Middles: the program's middleAt. -/
import Derived.Test.YtfobngpokchgeaaMO
namespace Go.Proofs.Ytfobngpokchgeaa
open Go.RowKit

set_option maxHeartbeats 4000000 in
theorem iMid_any {w : World} {v : Value} {n i h m : Nat} {xs : Nat → Int} (hv : Il w v n xs) (hn : n ≤ 512) (hi : i < n) (hh : h ≤ 15) (hm : m = 2 * h + 1) :
    Calls Try.prog 14 #[v, .int .i64 (i : Int), .int .i64 (m : Int)] w fun e w' => e = .returned (.int .i64 (srt m (nr n xs i h) h)) ∧ Below w.heap.size w w' := by
  obtain ⟨i0, hi', hz0, hz1, hz2⟩ := info_parts Try.info3
  have e2 : (m : Int).tdiv 2 = (h : Int) := by rw [Int.tdiv_eq_ediv_of_nonneg (by omega)]; omega
  have e3 : (m : Int) / 2 = (h : Int) := by omega
  have hm31 : m ≤ 31 := by omega
  have hmh : h < m := by omega
  have HV : Hid (Il w v n xs) := hv
  obtain ⟨ao, cap, rfl, hcap, _⟩ := hv
  clear hm
  go_enter Try.func14, Try.ntmps14
  go_wp2_with (first
    | (at_make; refine wpList_make_full _ rfl _ _ 24 rfl w.heap.size 3 i0 (.int .i64 0) 1 Try.underlying24 hi' hz0 hz1 .i64 .i64 _ _ m rfl rfl (by omega) (by omega) (by rw [hz2]; omega) (by unfold maxLen; omega) (Nat.le_refl _) ?_; intro w1 hown hgrow; have HB1 : Hid (Below w.heap.size w w1) := (Below.refl _ _).grown hgrow (Nat.le_refl _) (fun _ h => by cases h); rw [mmade_ils] at hown; have HI1 : Hid (w1.ownsRow w.heap.size 3 1 (.slice (some ⟨w.heap.size, 0, none⟩) m m) m (ils (upz (nr n xs i h) 0) m)) := (by rw [upz_zero]; exact hown); clear hown hgrow))
  go_loopw [8, 12] (fun _ iv wr => ∃ k : Nat, iv = .int .i64 k ∧ k ≤ m ∧ Hid (wr.ownsRow w.heap.size 3 1 (.slice (some ⟨w.heap.size, 0, none⟩) m m) m (ils (upz (nr n xs i h) k) m) ∧ Below w.heap.size w wr)) (fun _ iv _ => m - (intOf iv).toNat)
  case atStart => exact ⟨0, rfl, by omega, HI1.out, HB1.out⟩
  case round =>
    obtain ⟨k, rfl, hk, hrel⟩ := hrel
    by_cases h1 : k < m
    · have hrow := hrel.out.1
      have iN := iNear_any (HV.out.below hrel.out.2) (by omega) (by omega) ((i : Int) + k - h) (by omega)
      rw [show nea n xs ((i : Int) + k - h) = nr n xs i h k from rfl] at iN
      have hfz := hrow.frozenAt k
      have hce := hrow.cellAt k (by omega)
      rw [ils_get h1] at hce
      have hst := (hrow.stored k (.int .i64 (nr n xs i h k))).1
      rw [upz_put] at hst
      have OP : Hid (_ ∧ Below w.heap.size w _) := ⟨hst, hrel.out.2.setCell (p := ⟨w.heap.size, k, none⟩) (Nat.le_refl _) (.int .i64 (nr n xs i h k))⟩
      clear hst hrow hrel
      go_wp2_with (first
        | (go_at_call 23; refine iN.mono ?_; rintro e w' ⟨rfl, hw⟩; obtain rfl := hw.symm))
      go_roundw
      case rel => exact ⟨k + 1, by go_num, by omega, OP.out⟩
      case measure => simp [intOf]; omega
    · obtain rfl : k = m := by omega
      have HR : Hid (wr.ownsRow w.heap.size 3 1 (.slice (some ⟨w.heap.size, 0, none⟩) k k) k (ils (nr n xs i h) k)) := by have := hrel.out.1; rw [upz_full] at this; exact this
      have HB : Hid (Below w.heap.size w wr) := hrel.out.2
      clear hrel
      go_wp2_with (first
        | (go_at_call 24; refine (sorted_own HR.out (by omega)).mono ?_; rintro e w2 ⟨rfl, q1, q2⟩; have HB2 : Hid (Below w.heap.size w w2) := HB.out.trans q2; have c := q1.cellAt h (by omega); rw [ils_get (by omega)] at c; clear q1 q2))
      go_ret
      exact ⟨rfl, HB2.out⟩
end Go.Proofs.Ytfobngpokchgeaa
