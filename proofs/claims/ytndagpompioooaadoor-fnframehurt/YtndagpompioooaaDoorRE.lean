/- Rice: the program. -/
import Derived.Test.YtndagpompioooaaDoorRD
import Derived.Test.YtndagpompioooaaDoorPST
namespace Go.Proofs.YtndagpompioooaaDoor
open Go.RowKit

set_option maxRecDepth 20000 in
set_option maxHeartbeats 8000000 in
theorem iRice_good {w : World} {v : Value} {n : Nat} {xs : Nat → Int} (hv : Il w v n xs) (h : Rc n xs) {k : Nat} (hk : k ≤ 30) (h1 : rbt k xs n ≤ 100000) {N : Nat} (hN : N = rbt k xs n) :
    Calls Tryd.prog 13 #[.int .i64 (k : Int), v] w fun e w' => Pst w w' e N (lf (ric k xs n)) true := by
  obtain ⟨i0, hi, hz0, hz1, hz2⟩ := info_parts Tryd.info3
  have h5 := h.1
  have HBT : Hid (∀ k, k < n → -1000000000 ≤ xs k ∧ xs k ≤ 1000000000) := h.2
  have HN : Hid (N = rbt k xs n) := hN
  have HMX : Hid (∀ i, i ≤ n → rbt k xs i ≤ 100000) := fun i hi => Nat.le_trans (rbt_mono k xs hi) h1
  have i1 := rice_any (hv.below (below_one w (.cells #[] 3))) (by omega)
  rw [decide_eq_true h] at i1
  have i2 := low_any (k : Int)
  rw [decide_eq_true (by omega)] at i2
  have i3 := ibits_any (hv.below (below_one w (.cells #[] 3))) h hk
  have OW : Hid ((w.alloc (.cells #[] 3)).ownsRow w.heap.size 3 1 (.slice (some ⟨w.heap.size, 0, none⟩) 0 0) 0 []) := own_empty w 3 1
  have BL : Hid (Below w.heap.size w (w.alloc (.cells #[] 3))) := below_one _ _
  obtain ⟨ao, cap, rfl, hcap, hc⟩ := hv
  have HC : Hid (0 < n → ∃ b off, ao = some ⟨b, off, none⟩ ∧ b < w.heap.size ∧ ∀ k, k < n → w.cell? ⟨b, off + k, none⟩ = some (.int .i64 (xs k))) := hc
  clear hc h hN
  generalize rbt k xs n = S0 at i3 h1
  go_enter Tryd.func13, Tryd.ntmps13
  go_wp2_with (first | (go_at_call 41; (with_reducible refine (i1).mono ?_); rintro e w' ⟨rfl, hw⟩; obtain rfl := hw.symm) | (go_at_call 44; (with_reducible refine (i2 _).mono ?_); rintro e w' ⟨rfl, hw⟩; obtain rfl := hw.symm) | (go_at_call 42; (with_reducible refine (i3).mono ?_); rintro e w' ⟨rfl, hw⟩; obtain rfl := hw.symm))
  clear i1 i2 i3
  generalize w.alloc (.cells #[] 3) = W at *
  go_loopw [6, 8, 9, 28, 37] (fun q _ _ iv _ wr => ∃ (i : Nat) (M : List Int), iv = .int .i64 i ∧ i ≤ n ∧ M.length ≤ 100000 ∧ Hid (M = ric k xs i ∧ wr.ownsRow w.heap.size 3 1 q M.length (ils (lf M) M.length) ∧ Below w.heap.size w wr)) (fun _ _ _ iv _ _ => n - (intOf iv).toNat)
  case atStart => exact ⟨0, [], rfl, by omega, Nat.zero_le _, rfl, OW.out, BL.out⟩
  case round =>
    obtain ⟨i, M, rfl, hi9, hM, hrel⟩ := hrel
    by_cases h1 : i < n
    · obtain ⟨b, off, rfl, hlt, hcell⟩ := HC.out (by omega)
      have c := (hrel.out.2.2.cell (p := ⟨b, off + i, none⟩) hlt).trans (hcell i h1)
      have hb := HBT.out i h1
      have hu := zig_le hb
      have iz := iZig_any hb wr
      have HNX : Hid (ric k xs (i + 1) = ((M ++ List.replicate (zig (xs i) / 2 ^ k) 1) ++ [0]) ++ low (zig (xs i)) k k) := by rw [hrel.out.1]; rfl
      have hlen : M.length + (zig (xs i) / 2 ^ k + 1 + k) ≤ 100000 := by
        have := HMX.out (i + 1) h1
        rw [hrel.out.1, ric_len]; exact this
      have HO : Hid (wr.ownsRow w.heap.size 3 1 _ M.length (ils (lf M) M.length)) := hrel.out.2.1
      have HB : Hid (Below w.heap.size w wr) := hrel.out.2.2
      generalize zig (xs i) = u at *
      generalize xs i = x at *
      obtain ⟨y, hy⟩ : ∃ y : Nat, y = u / 2 ^ k := ⟨_, rfl⟩
      have hyb : y ≤ u := by rw [hy]; exact Nat.div_le_self _ _
      have e1 : (u : Int) / 2 ^ k = (y : Int) := by rw [hy, Int.natCast_ediv, Int.natCast_pow]; rfl
      rw [← hy] at HNX hlen
      clear hcell hrel hy
      go_wp2_with (first | (go_at_call 45; (with_reducible refine iz.mono ?_); rintro e w' ⟨rfl, hw⟩; obtain rfl := hw.symm))
      clear iz c
      go_loopw [6, 37] (fun q jv wr => ∃ (j : Nat) (R : List Int), jv = .int .i64 j ∧ j ≤ y ∧ R.length = M.length + j ∧ Hid (R = M ++ List.replicate j 1 ∧ wr.ownsRow w.heap.size 3 1 q R.length (ils (lf R) R.length) ∧ Below w.heap.size w wr)) (fun _ jv _ => y - (intOf jv).toNat)
      case atStart => exact ⟨0, M, rfl, by omega, rfl, (List.append_nil _).symm, HO.out, HB.out⟩
      case round =>
        clear HO HB
        obtain ⟨j, R, rfl, hj, hR, hrel⟩ := hrel
        have HO : Hid (wr.ownsRow w.heap.size 3 1 _ R.length (ils (lf R) R.length)) := hrel.out.2.1
        have HB : Hid (Below w.heap.size w wr) := hrel.out.2.2
        have HE : Hid (R = M ++ List.replicate j 1) := hrel.out.1
        clear hrel
        by_cases h2 : j < y
        · have HO3 : Hid ((wr.alloc (.cells #[.int .i64 1] 3)).ownsRow w.heap.size 3 1 _ R.length (ils (lf R) R.length)) := own_below HO.out (below_one _ _)
          have HB3 : Hid (Below w.heap.size w (wr.alloc (.cells #[.int .i64 1] 3))) := bstep HB.out (below_one _ _)
          go_wp2_with (first | (at_builtin; refine wpList_append_own _ rfl _ _ 24 rfl w.heap.size 3 i0 (.int .i64 0) 1 8 Tryd.underlying24 hi hz0 hz1 hz2 rfl (by decide) _ _ _ rfl HO3.out ⟨wr.heap.size, 0, none⟩ 1 1 [.int .i64 1] rfl rfl (one_new _ _ _) (by simp [Value.oneCell']) (by unfold maxLen; omega) (by omega) HB3.out.size ?_; intro v' w4 hown' hgrow _; have HB4 : Hid (Below w.heap.size w w4) := grown_below HB3.out (Nat.le_refl _) HO3.out hgrow; have HO4 : Hid (w4.ownsRow w.heap.size 3 1 v' (R ++ [1]).length (ils (lf (R ++ [1])) (R ++ [1]).length)) := ol_snoc hown'; clear hown' hgrow))
          go_roundw
          case rel => exact ⟨j + 1, R ++ [1], by go_num, by omega, by rw [len_snoc]; omega, by rw [HE.out, List.append_assoc, List.replicate_succ'], HO4.out, HB4.out⟩
          case measure => simp [intOf]; omega
        · obtain rfl : j = y := by omega
          have HO3 : Hid ((wr.alloc (.cells #[.int .i64 0] 3)).ownsRow w.heap.size 3 1 _ R.length (ils (lf R) R.length)) := own_below HO.out (below_one _ _)
          have HB3 : Hid (Below w.heap.size w (wr.alloc (.cells #[.int .i64 0] 3))) := bstep HB.out (below_one _ _)
          have hl9 := len_snoc R 0
          have HF : Hid (ric k xs (i + 1) = (R ++ [0]) ++ low u k k) := by rw [HE.out]; exact HNX.out
          obtain ⟨R1, hR1⟩ : ∃ R1, R1 = R ++ [0] := ⟨_, rfl⟩
          rw [← hR1] at hl9 HF
          have HR1 : Hid (R1 = R ++ [0]) := hR1
          clear hR1 HO HNX HE
          go_wp2_with (first
            | (at_builtin; refine wpList_append_own _ rfl _ _ 24 rfl w.heap.size 3 i0 (.int .i64 0) 1 8 Tryd.underlying24 hi hz0 hz1 hz2 rfl (by decide) _ _ _ rfl HO3.out ⟨wr.heap.size, 0, none⟩ 1 1 [.int .i64 0] rfl rfl (one_new _ _ _) (by simp [Value.oneCell']) (by unfold maxLen; omega) (by omega) HB3.out.size ?_; intro v' w4 hown' hgrow _; have HB4 : Hid (Below w.heap.size w w4) := grown_below HB3.out (Nat.le_refl _) HO3.out hgrow; have HO4 : Hid (w4.ownsRow w.heap.size 3 1 v' R1.length (ils (lf R1) R1.length)) := (by rw [HR1.out]; exact ol_snoc hown'); clear hown' hgrow)
            | (go_at_call 46; refine (append_any HO4.out HB4.out (by omega) (x := u) (by omega) (by omega)).mono ?_; rintro e w5 ⟨u5, rfl, hown, hb⟩; have HO5 : Hid (w5.ownsRow w.heap.size 3 1 u5 (R1 ++ low u k k).length (ils (lf (R1 ++ low u k k)) (R1 ++ low u k k).length)) := (by rw [List.length_append, low_len, ← cat_low]; exact hown); have HB5 : Hid (Below w.heap.size w w5) := hb; clear hown hb))
          go_roundw
          case rel => exact ⟨i + 1, R1 ++ low u k k, by go_num, by omega, by rw [List.length_append, low_len]; omega, HF.out.symm, HO5.out, HB5.out⟩
          case measure => simp [intOf]; omega
    · obtain rfl : i = n := by omega
      have hN : N = M.length := by rw [HN.out, hrel.out.1, ric_len]
      go_wp2
      go_ret2
      rw [hN, ← hrel.out.1]
      exact ⟨_, rfl, hrel.out.2.1, hrel.out.2.2⟩
end Go.Proofs.YtndagpompioooaaDoor
