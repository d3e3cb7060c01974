/- Rates: the program's spread and thinned. -/
import Derived.Test.YtgamambcbaobnaaUM
namespace Go.Proofs.Ytgamambcbaobnaa
open Go.RowKit

/-- A rate. -/
abbrev Rte (b : Int) : Prop := 1 ≤ b ∧ b ≤ 16

theorem iRte_any (x : Int) (w : World) : Calls Try.prog 19 #[.int .i64 x] w fun e w' => e = .returned (.bool (decide (Rte x))) ∧ w' = w := by
  go_enter Try.func19, Try.ntmps19
  by_cases h : 1 ≤ x
  · by_cases h1 : x ≤ 16
    · go_wp2
      go_ret
      exact ⟨by simp [h, h1], rfl⟩
    · go_wp2
      go_ret
      exact ⟨by simp [h1], rfl⟩
  · go_wp2
    go_ret
    exact ⟨by simp; omega, rfl⟩

set_option maxHeartbeats 4000000 in
theorem spread_any {w : World} {v : Value} {n m M : Nat} {xs : Nat → Int} (hv : Il w v n xs) (hn : n ≤ 512) (h0 : 1 ≤ m) (hm : m ≤ 16) (hM : M = n * m) :
    Calls Try.prog 22 #[v, .int .i64 (m : Int)] w fun e w' => ∃ u, e = .returned u ∧ w'.ownsRow w.heap.size 3 1 u M (ils (upF m xs) M) ∧ Below w.heap.size w w' := by
  have hM2 : M ≤ 8192 := by rw [hM]; exact Nat.mul_le_mul hn hm
  have e0 : (n : Int) * (m : Int) = (M : Int) := by rw [hM]; exact (Int.natCast_mul n m).symm
  have hr := mkd_run w (k := M) (by omega)
  have HM : Hid (M = n * m) := hM
  have OW : Hid ((mkd w M).ownsRow w.heap.size 3 1 (.slice (some ⟨w.heap.size, 0, none⟩) M M) M (ils (spr m xs 0) M)) := by
    rw [spr_zero]; exact mkd_own w (by omega) (Nat.le_refl _)
  have BL : Hid (Below w.heap.size w (mkd w M)) := mkd_below _ _
  obtain ⟨ao, cap, rfl, hcap, hc⟩ := hv
  have HC : Hid (0 < n → ∃ b off, ao = some ⟨b, off, none⟩ ∧ b < w.heap.size ∧ ∀ k, k < n → w.cell? ⟨b, off + k, none⟩ = some (.int .i64 (xs k))) := hc
  clear hc hM
  go_enter Try.func22, Try.ntmps22
  go_wp2
  clear hr
  generalize mkd w M = W at *
  go_loopw [6, 7, 15] (fun _ _ i wr => ∃ k : Nat, i = .int .i64 k ∧ k ≤ n ∧ Hid (wr.ownsRow w.heap.size 3 1 (.slice (some ⟨w.heap.size, 0, none⟩) M M) M (ils (spr m xs k) M) ∧ Below w.heap.size w wr)) (fun _ _ i _ => n - (intOf i).toNat)
  case atStart => exact ⟨0, rfl, by omega, OW.out, BL.out⟩
  case round =>
    obtain ⟨k, rfl, hk, hrel⟩ := hrel
    by_cases h1 : k < n
    · obtain ⟨b, off, rfl, hlt, hcell⟩ := HC.out (by omega)
      have c := (hrel.out.2.cell (p := ⟨b, off + k, none⟩) hlt).trans (hcell k h1)
      obtain ⟨q, hq⟩ : ∃ q : Nat, q = k * m := ⟨_, rfl⟩
      have e1 : (k : Int) * (m : Int) = (q : Int) := by rw [hq]; exact (Int.natCast_mul k m).symm
      have hqM : q < M := by rw [HM.out, hq]; exact (Nat.mul_lt_mul_right (by omega)).2 h1
      have HQ : Hid (q = k * m) := hq
      generalize hz : xs k = z at c
      have HZ : Hid (xs k = z) := hz
      clear hz hcell hq
      have hrow := hrel.out.1
      have hfz := hrow.frozenAt q
      have hce := hrow.cellAt q (by omega)
      rw [ils_get hqM] at hce
      have hst := (hrow.stored q (.int .i64 z)).1
      rw [ils_put, HQ.out, spr_put (by omega) xs HZ.out.symm, ← HQ.out] at hst
      have OP : Hid (_ ∧ _) := ⟨hst, hrel.out.2.setCell (p := ⟨w.heap.size, q, none⟩) (Nat.le_refl _) (.int .i64 z)⟩
      clear hst hrow hrel
      go_wp2
      go_roundw
      case rel => exact ⟨k + 1, by go_num, by omega, OP.out⟩
      case measure => simp [intOf]; omega
    · obtain rfl : n = k := by omega
      have HF : Hid (wr.ownsRow w.heap.size 3 1 (.slice (some ⟨w.heap.size, 0, none⟩) M M) M (ils (upF m xs) M) ∧ Below w.heap.size w wr) := by
        refine ⟨?_, hrel.out.2⟩
        have := hrel.out.1
        rw [HM.out] at this ⊢
        rw [← spr_all (by omega)]
        exact this
      clear hrel
      go_wp2
      go_ret
      exact ⟨_, rfl, HF.out⟩

set_option maxHeartbeats 4000000 in
theorem thin_any {w : World} {v : Value} {n m p : Nat} {xs : Nat → Int} (hv : Il w v n xs) (hn : n ≤ 1000000) (hm : m ≤ 1000) (hp : p < m) :
    Calls Try.prog 20 #[v, .int .i64 (m : Int), .int .i64 (p : Int)] w fun e w' => ∃ u, e = .returned u ∧ w'.ownsRow w.heap.size 3 1 u (dN n m p) (ils (thF m p xs) (dN n m p)) ∧ Below w.heap.size w w' := by
  obtain ⟨i0, hi, hz0, hz1, hz2⟩ := info_parts Try.info3
  have OW : Hid ((w.alloc (.cells #[] 3)).ownsRow w.heap.size 3 1 (.slice (some ⟨w.heap.size, 0, none⟩) 0 0) 0 (ils (thF m p xs) 0)) := own_empty w 3 1
  have BL : Hid (Below w.heap.size w (w.alloc (.cells #[] 3))) := below_one _ _
  obtain ⟨ao, cap, rfl, hcap, hc⟩ := hv
  have HC : Hid (0 < n → ∃ b off, ao = some ⟨b, off, none⟩ ∧ b < w.heap.size ∧ ∀ k, k < n → w.cell? ⟨b, off + k, none⟩ = some (.int .i64 (xs k))) := hc
  clear hc
  go_enter Try.func20, Try.ntmps20
  go_wp2
  generalize w.alloc (.cells #[] 3) = W at *
  go_loopw [7, 8] (fun o i wr => ∃ j a : Nat, i = .int .i64 a ∧ Hid ((a = p + m * j ∧ p + m * j < n + m) ∧ wr.ownsRow w.heap.size 3 1 o j (ils (thF m p xs) j) ∧ Below w.heap.size w wr)) (fun _ i _ => n + m - (intOf i).toNat)
  case atStart => exact ⟨0, p, rfl, ⟨by omega, by omega⟩, OW.out, BL.out⟩
  case round =>
    obtain ⟨j, a, rfl, hrel⟩ := hrel
    have HM : Hid (a = p + m * j ∧ p + m * j < n + m) := hrel.out.1
    have hjb : j ≤ n + m := by have := HM.out.2; have := Nat.le_mul_of_pos_left j (show 0 < m by omega); omega
    by_cases h1 : a < n
    · obtain ⟨b, off, rfl, hlt, hcell⟩ := HC.out (by omega)
      have c := (hrel.out.2.2.cell (p := ⟨b, off + a, none⟩) hlt).trans (hcell a h1)
      have hy : xs a = thF m p xs j := by show _ = xs (p + m * j); rw [← HM.out.1]
      rw [hy] at c
      generalize hz : thF m p xs j = z at c hy
      have HZ : Hid (thF m p xs j = z) := hz
      clear hz hy hcell
      have hb3 := below_one wr (.cells #[.int .i64 z] 3)
      have HO3 := own_below hrel.out.2.1 hb3
      have HB3 := bstep hrel.out.2.2 hb3
      clear hb3
      go_wp2_with (first | (at_builtin; refine wpList_append_own _ rfl _ _ 24 rfl w.heap.size 3 i0 (.int .i64 0) 1 8 Try.underlying24 hi hz0 hz1 hz2 rfl (by decide) _ _ _ rfl HO3 ⟨wr.heap.size, 0, none⟩ 1 1 [.int .i64 z] rfl rfl (one_new _ _ _) (by simp [Value.oneCell']) (by unfold maxLen; omega) (by omega) HB3.size ?_))
      intro v' w4 hown' hgrow _
      have HB4 : Hid (Below w.heap.size w w4) := grown_below HB3 (Nat.le_refl _) HO3 hgrow
      rw [← HZ.out, ← ils_snoc (thF m p xs) j] at hown'
      have HO4 : Hid _ := hown'
      clear hown' hgrow HB3 HO3
      go_wp2
      go_roundw
      case rel => exact ⟨j + 1, a + m, by go_num, ⟨by have := HM.out.1; rw [Nat.mul_succ]; omega, by have := HM.out.1; rw [Nat.mul_succ]; omega⟩, HO4.out, HB4.out⟩
      case measure => simp [intOf]; omega
    · have hj : dN n m p = j := dN_of hp (by have := HM.out.1; omega) HM.out.2
      have HF : Hid (wr.ownsRow w.heap.size 3 1 u7 (dN n m p) (ils (thF m p xs) (dN n m p))) := by
        rw [hj]; exact hrel.out.2.1
      have HB4 : Hid (Below w.heap.size w wr) := hrel.out.2.2
      clear hrel hj
      go_wp2
      go_ret
      exact ⟨_, rfl, HF.out, HB4.out⟩
end Go.Proofs.Ytgamambcbaobnaa
