/- Places whose powers are zeros of a rule. -/
import Derived.Test.YtamcpmclnjngcaaRK
import Derived.Test.YtamcpmclnjngcaaRF
import Derived.Test.YtamcpmclnjngcaaAW
import Derived.WalkMore
import Derived.BigQuiet
namespace Go.Proofs.Ytamcpmclnjngcaa
open Go.RowKit

/-- The places among the first k whose powers are zeros. -/
def hls (c : Nat → Nat) (n : Nat) : Nat → List Nat
  | 0 => []
  | k + 1 => if hz c (gpw (n - 1 - k)) 17 = 0 then hls c n k ++ [k] else hls c n k
theorem hls_yes {c : Nat → Nat} {n k : Nat} (h : hz c (gpw (n - 1 - k)) 17 = 0) : hls c n (k + 1) = hls c n k ++ [k] := by rw [hls, if_pos h]
theorem hls_no {c : Nat → Nat} {n k : Nat} (h : ¬ hz c (gpw (n - 1 - k)) 17 = 0) : hls c n (k + 1) = hls c n k := by rw [hls, if_neg h]
theorem hls_len (c : Nat → Nat) (n : Nat) : ∀ k, (hls c n k).length ≤ k
  | 0 => Nat.le_refl _
  | k + 1 => by
    have := hls_len c n k
    unfold hls
    split
    · rw [List.length_append, List.length_singleton]; omega
    · omega
def lfn (l : List Nat) (i : Nat) : Nat := l.getD i 0
theorem lfn_old {l : List Nat} {x i : Nat} (h : i < l.length) : lfn (l ++ [x]) i = lfn l i := by
  unfold lfn
  rw [List.getD_eq_getElem?_getD, List.getD_eq_getElem?_getD, List.getElem?_append_left h]
theorem lfn_new (l : List Nat) (x : Nat) : lfn (l ++ [x]) l.length = x := by
  unfold lfn
  rw [List.getD_eq_getElem?_getD, List.getElem?_append_right (Nat.le_refl _), Nat.sub_self]
  rfl
/-- A list of places as a row. -/
abbrev irow (l : List Nat) (i : Nat) : Int := ((lfn l i : Nat) : Int)
theorem irow_snoc (l : List Nat) (x : Nat) : ils (irow (l ++ [x])) (l.length + 1) = ils (irow l) l.length ++ [.int .i64 (x : Int)] := by
  rw [ils_snoc, ils_congr (n := l.length) (g := irow l) (fun k hk => by show ((lfn _ _ : Nat) : Int) = _; rw [lfn_old hk]), show irow (l ++ [x]) l.length = (x : Int) by show ((lfn _ _ : Nat) : Int) = _; rw [lfn_new]]

set_option maxRecDepth 20000 in
set_option maxHeartbeats 8000000 in
theorem hurt_any {c : Nat → Nat} {n : Nat} (hc : ∀ k, c k < 256) (hn : n ≤ 255) (w : World) :
    Calls Try.prog 33 #[.int .i64 (n : Int), pgv c] w fun e w' => ∃ u, e = .returned u ∧ w'.ownsRow w.heap.size 3 1 u (hls c n n).length (ils (irow (hls c n n)) (hls c n n).length) ∧ Below w.heap.size w w' := by
  obtain ⟨i0, hi, hz0, hz1, hz2⟩ := info_parts Try.info3
  have A0 : Hid (Pa ((w.alloc (.cells (pcs c) 49)).alloc (.cells #[] 3)) w.heap.size c) := (Pa.box w c 49).below (below_one _ _)
  have O0 : Hid (((w.alloc (.cells (pcs c) 49)).alloc (.cells #[] 3)).ownsRow (w.heap.size + 1) 3 1 (.slice (some ⟨w.heap.size + 1, 0, none⟩) 0 0) 0 (ils (irow []) 0)) := by
    have := own_empty (w.alloc (.cells (pcs c) 49)) 3 1
    rw [show (w.alloc (.cells (pcs c) 49)).heap.size = w.heap.size + 1 from Array.size_push _] at this
    exact this
  have BL : Hid (Below w.heap.size w ((w.alloc (.cells (pcs c) 49)).alloc (.cells #[] 3))) := bstep (below_one _ _) (below_one _ _)
  have hb : Byt 17 (fun k => ((c k : Nat) : Int)) := fun k _ => by have := hc k; show 0 ≤ ((c k : Nat) : Int) ∧ ((c k : Nat) : Int) < 256; omega
  have ih : ∀ W (x : Nat), Pa W w.heap.size c → x < 256 → Calls Try.prog 50 #[.slice (some ⟨w.heap.size, 0, none⟩) 17 17, .int .u8 (x : Int)] W fun e w' => e = .returned (.int .u8 ((hz c x 17 : Nat) : Int)) ∧ w' = W := fun W x hW hx => by
    have hB : Bl W (.slice (some ⟨w.heap.size, 0, none⟩) 17 17) 17 (fun k => ((c k : Nat) : Int)) := ⟨_, 17, rfl, Nat.le_refl _, fun _ => ⟨w.heap.size, 0, rfl, hW.lt, fun k hk => by rw [Nat.zero_add]; exact hW.c k hk⟩⟩
    have := high_any hB hb (by decide) hx
    rw [hz_congr 17 (fun k hk => nb_nat hc hk)] at this
    exact this
  have HIH : Hid (∀ W (x : Nat), Pa W w.heap.size c → x < 256 → Calls Try.prog 50 #[.slice (some ⟨w.heap.size, 0, none⟩) 17 17, .int .u8 (x : Int)] W fun e w' => e = .returned (.int .u8 ((hz c x 17 : Nat) : Int)) ∧ w' = W) := ih
  have SZ : Hid (w.heap.size + 1 ≤ ((w.alloc (.cells (pcs c) 49)).alloc (.cells #[] 3)).heap.size) := by show _ ≤ _; simp
  obtain ⟨B, hB⟩ : ∃ B, B = w.heap.size := ⟨_, rfl⟩
  obtain ⟨G1, hG1⟩ : ∃ G1, G1 = B + 1 := ⟨_, rfl⟩
  rw [← hB] at A0 O0 BL HIH SZ
  rw [← hG1] at O0 SZ
  have HC : Hid (∀ k, c k < 256) := hc
  clear hc hb ih
  go_enter Try.func33, Try.ntmps33
  go_upto_region 2 with fail
  generalize (w.alloc (.cells (pcs c) 49)).alloc (.cells #[] 3) = W at *
  simp only [← hB]
  rw [← hG1]
  have HB9 : Hid (B = w.heap.size) := hB
  have hBG : Hid (B < G1) := by show B < G1; omega
  clear hG1 hB
  generalize (Value.slice (some ⟨G1, 0, none⟩) 0 0) = u0 at *
  go_wp2
  go_loopw [5, 6, 9] (fun up _ iv wr => ∃ k : Nat, iv = .int .i64 (k : Int) ∧ k ≤ n ∧ Hid (Pa wr B c ∧ wr.ownsRow G1 3 1 up (hls c n k).length (ils (irow (hls c n k)) (hls c n k).length) ∧ G1 ≤ wr.heap.size ∧ Below B w wr)) (fun _ _ iv _ => n - (intOf iv).toNat)
  case atStart => exact ⟨0, rfl, by omega, A0.out, O0.out, SZ.out, BL.out⟩
  case round =>
    obtain ⟨k, rfl, hk, HR⟩ := hrel
    clear A0 O0 BL SZ
    by_cases h1 : k < n
    · have i1 := at_any h1 hn
      obtain ⟨x, hx⟩ : ∃ x, x = gpw (n - 1 - k) := ⟨_, rfl⟩
      rw [← hx] at i1
      have hxl : x < 256 := by rw [hx]; exact gpw_lt _
      have HD : Hid (∀ m, Pa (wr.drewN m) B c ∧ (wr.drewN m).ownsRow G1 3 1 u5 (hls c n k).length (ils (irow (hls c n k)) (hls c n k).length) ∧ G1 ≤ (wr.drewN m).heap.size ∧ Below B w (wr.drewN m)) := fun m => ⟨HR.out.1.below (below_drewN (Below.refl _ _) m), own_below HR.out.2.1 (below_drewN (Below.refl _ _) m), HR.out.2.2.1, below_drewN HR.out.2.2.2 m⟩
      have i2 : ∀ m, Calls Try.prog 50 #[.slice (some ⟨B, 0, none⟩) 17 17, .int .u8 (x : Int)] (wr.drewN m) fun e w' => e = .returned (.int .u8 ((hz c x 17 : Nat) : Int)) ∧ w' = wr.drewN m := fun m => HIH.out _ x (HD.out m).1 hxl
      have hll := hls_len c n k
      obtain ⟨y, hy⟩ : ∃ y, y = hz c x 17 := ⟨_, rfl⟩
      rw [← hy] at i2
      have HY : Hid (y = hz c (gpw (n - 1 - k)) 17) := by show _ = _; rw [hy, hx]
      clear hx hy HR
      by_cases h2 : y = 0
      · subst h2
        have HE : Hid (hls c n (k + 1) = hls c n k ++ [k]) := hls_yes HY.out.symm
        go_upto_region 5 with fail
        go_quiet (first | (go_at_call 52; exact Calls.quiet_of_same (i1 _)) | (go_at_call 50; exact Calls.quiet_of_same (i2 _)))
        have HN := HD.out nq
        have bx := below_one (wr.drewN nq) (.cells #[.int .i64 (k : Int)] 3)
        have OA : Hid (((wr.drewN nq).alloc (.cells #[.int .i64 (k : Int)] 3)).ownsRow G1 3 1 u5 (hls c n k).length (ils (irow (hls c n k)) (hls c n k).length)) := own_below HN.2.1 bx
        have PA : Hid (Pa ((wr.drewN nq).alloc (.cells #[.int .i64 (k : Int)] 3)) B c) := HN.1.below bx
        have ZA : Hid (G1 ≤ ((wr.drewN nq).alloc (.cells #[.int .i64 (k : Int)] 3)).heap.size) := Nat.le_trans HN.2.2.1 bx.size
        have LA : Hid (Below B w ((wr.drewN nq).alloc (.cells #[.int .i64 (k : Int)] 3))) := bbel HB9.out HN.2.2.2 bx
        clear bx HN HD i1 i2
        generalize wr.drewN nq = W5 at *
        go_wp2_with (first
          | (at_builtin; refine wpList_app _ rfl _ _ 24 rfl G1 3 i0 (.int .i64 0) 1 8 Try.underlying24 hi hz0 hz1 hz2 rfl (by decide) _ _ _ rfl OA.out ⟨W5.heap.size, 0, none⟩ 1 1 [.int .i64 (k : Int)] rfl rfl (one_new _ _ _) (by simp [Value.oneCell']) (by unfold maxLen; omega) (by omega) ZA.out (by decide) ?_; intro v7 w7 hown hgrow _; have OB : Hid (w7.ownsRow G1 3 1 v7 (hls c n (k + 1)).length (ils (irow (hls c n (k + 1))) (hls c n (k + 1)).length)) := (by rw [HE.out, List.length_append, List.length_singleton]; show World.ownsRow _ _ _ _ _ _ _; rw [irow_snoc]; exact hown); have BG : Below G1 (W5.alloc (.cells #[.int .i64 (k : Int)] 3)) w7 := grown_below (Below.refl _ _) ZA.out OA.out hgrow; have PB : Hid (Pa w7 B c) := PA.out.block (BG.block B hBG.out); have LB : Hid (Below B w w7) := LA.out.trans (BG.mono (Nat.le_of_lt hBG.out)); have ZB : Hid (G1 ≤ w7.heap.size) := Nat.le_trans ZA.out BG.size; clear hown hgrow BG))
        go_roundw
        case rel => exact ⟨k + 1, by go_num, by omega, PB.out, OB.out, ZB.out, LB.out⟩
        case measure => simp [intOf]; omega
      · have HE : Hid (hls c n (k + 1) = hls c n k) := hls_no (by rw [← HY.out]; exact h2)
        have h3 : (((y : Nat) : Int) == 0) = false := by simp; omega
        have h3' : ¬ (((y : Nat) : Int) = 0) := by omega
        go_upto_region 5 with fail
        go_quiet (first | (go_at_call 52; exact Calls.quiet_of_same (i1 _)) | (go_at_call 50; exact Calls.quiet_of_same (i2 _)))
        have HN : Hid (Pa (wr.drewN nq) B c ∧ (wr.drewN nq).ownsRow G1 3 1 u5 (hls c n (k + 1)).length (ils (irow (hls c n (k + 1))) (hls c n (k + 1)).length) ∧ G1 ≤ (wr.drewN nq).heap.size ∧ Below B w (wr.drewN nq)) := by rw [HE.out]; exact HD.out nq
        clear HD i1 i2
        generalize wr.drewN nq = W5 at *
        go_wp2
        go_roundw
        case rel => exact ⟨k + 1, by go_num, by omega, HN.out⟩
        case measure => simp [intOf]; omega
    · obtain rfl : k = n := by omega
      have O9 : Hid (wr.ownsRow B 3 1 u5 (hls c k k).length (ils (irow (hls c k k)) (hls c k k).length)) := own_base HR.out.2.1 (Nat.le_of_lt hBG.out)
      have B9 : Hid (Below B w wr) := HR.out.2.2.2
      clear HR
      go_wp2
      go_ret
      exact ⟨_, rfl, by rw [← HB9.out]; exact O9.out, by rw [← HB9.out]; exact B9.out⟩
end Go.Proofs.Ytamcpmclnjngcaa
