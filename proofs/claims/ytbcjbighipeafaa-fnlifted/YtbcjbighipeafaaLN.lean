/- Lift: the program. -/
import Derived.Test.YtbcjbighipeafaaLL
namespace Go.Proofs.Ytbcjbighipeafaa
open Go.RowKit

theorem iLev_any (x : Int) (w : World) : Calls Try.prog 28 #[.int .i64 x] w fun e w' => e = .returned (.bool (decide (0 ≤ x ∧ x ≤ 8))) ∧ w' = w := by
  go_enter Try.func28, Try.ntmps28
  by_cases h : 0 ≤ x
  · by_cases h1 : x ≤ 8
    · go_wp2
      go_ret
      exact ⟨by simp [h, h1], rfl⟩
    · go_wp2
      go_ret
      exact ⟨by simp [h1], rfl⟩
  · go_wp2
    go_ret
    exact ⟨by simp; omega, rfl⟩

theorem stL_bound {kind : Int} {n : Nat} {xs : Nat → Int} {k : Nat} (hs : Sig n xs) (hk : k ≤ 8) : Wth 10000000000000 n (stL kind n xs k) := fun i hi => by
  have h := stL_with (kind := kind) (M := 1000000000) (by omega) (sig_with hs) k i hi
  have h2 : (3 : Int) ^ k * 1000000000 ≤ 10000000000000 := by
    have : k = 0 ∨ k = 1 ∨ k = 2 ∨ k = 3 ∨ k = 4 ∨ k = 5 ∨ k = 6 ∨ k = 7 ∨ k = 8 := by omega
    rcases this with rfl | rfl | rfl | rfl | rfl | rfl | rfl | rfl | rfl <;> decide
  omega

theorem size3 : (Try.prog.info? 3).map (·.size) = some 1 := by kernel_rfl

theorem copied_own {w : World} {B g n c m : Nat} {f h : Nat → Int} (ho : w.ownsRow B 3 1 (.slice (some ⟨g, 0, none⟩) n c) n (ils f n)) (hm : m ≤ n) :
    ∃ cur : Array Value, w.heap[g]? = some (.cells cur 3 (0, 0)) ∧ m ≤ cur.size ∧ (w.setRow g (cur.toList.take 0 ++ (ils h m ++ cur.toList.drop (0 + (ils h m).length))).toArray).ownsRow B 3 1 (.slice (some ⟨g, 0, none⟩) n c) n (ils (fun i => if i < m then h i else f i) n) ∧ Only g w (w.setRow g (cur.toList.take 0 ++ (ils h m ++ cur.toList.drop (0 + (ils h m).length))).toArray) := by
  rcases ho.2 with ⟨hx, _⟩ | ⟨g', c', cur, hx, hb, hg, h1, h2, h3, h4⟩
  · cases hx
  · injection hx with hx1 hx2 hx3
    injection hx1 with hx1
    injection hx1 with hx1
    subst hx1 hx3
    refine ⟨cur, hg, by omega, ⟨by rw [ils_length, Nat.mul_one], .inr ⟨g, c, _, rfl, hb, setRow_heap w g _ _ 3 _ hg, h1, h2, ?_, ?_⟩⟩, ⟨rfl, rfl, rfl, by simp [World.setRow], fun k hk => setRow_other w g k _ hk⟩⟩
    · simp only [List.size_toArray, List.length_append, List.length_take, List.length_drop, ils_length, Array.length_toList]
      omega
    · rw [List.take_zero, List.nil_append, Nat.zero_add, ils_length]
      apply List.ext_getElem?
      intro i
      by_cases hi : i < n
      · rw [List.getElem?_take_of_lt (by omega), ils_get hi]
        by_cases him : i < m
        · rw [List.getElem?_append_left (by rw [ils_length]; exact him), ils_get him, if_pos him]
        · rw [List.getElem?_append_right (by rw [ils_length]; omega), ils_length, List.getElem?_drop, if_neg him, show m + (i - m) = i by omega]
          have h5 : (List.take (n * 1) cur.toList)[i]? = (ils f n)[i]? := by rw [h4]
          rw [List.getElem?_take_of_lt (by omega), ils_get hi] at h5
          exact h5
      · rw [List.getElem?_eq_none (by rw [List.length_take]; omega), List.getElem?_eq_none (by rw [ils_length]; omega)]

theorem copied_run {w : World} {B g n c m g2 c2 : Nat} {f h : Nat → Int} (ho : w.ownsRow B 3 1 (.slice (some ⟨g, 0, none⟩) n c) n (ils f n)) (hm : m ≤ n) (hs : ∀ j u, (ils h m)[j]? = some u → w.cell? ((⟨g2, 0, none⟩ : Addr).add j) = some u) :
    ∃ w', (Builtin.copy_ #[24, 24] 3 #[.slice (some ⟨g, 0, none⟩) n c, .slice (some ⟨g2, 0, none⟩) m c2]).run Try.prog w = .ok (.int .i64 m) w' ∧ w'.ownsRow B 3 1 (.slice (some ⟨g, 0, none⟩) n c) n (ils (fun i => if i < m then h i else f i) n) ∧ Only g w w' := by
  obtain ⟨cur, h1, h2, h3, h4⟩ := copied_own (h := h) ho hm
  have hr := run_copy_row (P := Try.prog) w 24 24 3 3 g 0 n c ⟨g2, 0, none⟩ m c2 cur 3 (ils h m) Try.underlying24 size3 h1 (by rw [ils_length]; exact (Nat.min_eq_left hm).symm) hs (by rw [ils_length, Nat.zero_add]; exact h2) (ils_one _ _)
  refine ⟨_, hr.trans ?_, h3, h4⟩
  rw [ils_length]
  rfl

set_option maxRecDepth 20000 in
set_option maxHeartbeats 8000000 in
theorem iLift_good {w : World} {v : Value} {n L J B : Nat} {xs : Nat → Int} {kind : Int} (hk : Knd kind) (hs : Sig n xs) (hL : L ≤ 8) (hJ : Stp n L J) (hv : w.ownsRow B 3 1 v n (ils xs n)) :
    Calls Try.prog 10 #[.int .i64 kind, v, .int .i64 L] w fun e w' => Pst w w' e n (stL kind n xs J) true := by
  have hn : n ≤ 512 := hs.1
  have i1 := iKind_any kind
  rw [decide_eq_true hk] at i1
  have i2 := iSig_any (il_of_own hv) (by omega)
  rw [decide_eq_true hs] at i2
  have i3 := iLev_any (L : Int)
  rw [decide_eq_true (by omega)] at i3
  have i4 := fun W => iLens_any (w := W) (n := n) (L := L) (J := J) (by omega) hL hJ
  have HS : Hid (Sig n xs) := hs
  have HJ : Hid (Stp n L J) := hJ
  have HV : Hid _ := own_below hv (below_one w (.cells #[] 3))
  have HE : Hid ((w.alloc (.cells #[] 3)).ownsRow w.heap.size 3 1 (.slice (some ⟨w.heap.size, 0, none⟩) 0 0) 0 (ils xs 0)) := own_empty w 3 1
  have BE : Hid _ := below_one w (.cells #[] 3)
  clear hs hJ
  obtain ⟨ao, cap, hvv, hcap, hc⟩ := il_of_own hv
  clear hc hv
  subst hvv
  go_enter Try.func10, Try.ntmps10
  go_wp2_with (first
    | (go_at_call 22; (with_reducible refine (i1 _).mono ?_); rintro e w' ⟨rfl, hw⟩; obtain rfl := hw.symm)
    | (go_at_call 23; (with_reducible refine i2.mono ?_); rintro e w' ⟨rfl, hw⟩; obtain rfl := hw.symm)
    | (go_at_call 28; (with_reducible refine (i3 _).mono ?_); rintro e w' ⟨rfl, hw⟩; obtain rfl := hw.symm)
    | (at_builtin; refine wpList_appo rfl _ _ rfl w.heap.size B _ _ _ _ _ _ rfl rfl HE.out HV.out (by omega) BE.out.size ?_))
  intro v' w2 ho hg
  have HW : Hid (w2.ownsRow w.heap.size 3 1 v' n (ils xs n)) := ho
  have BW : Hid (Below w.heap.size w w2) := grown_below BE.out (Nat.le_refl _) HE.out hg
  clear ho hg i1 i2 i3 HV HE BE
  obtain ⟨wao, wcap, hwv, hwc, _⟩ := il_of_own HW.out
  subst hwv
  go_wp2_with (first
    | (go_at_call 29; (with_reducible refine (i4 _).mono ?_); rintro e w3 ⟨u, rfl, h1, h2⟩; have H1 : Hid _ := h1; have H2 : Hid _ := h2; obtain ⟨lao, lcap, hlv, hlc, _⟩ := il_of_own h1; clear h1 h2; subst hlv))
  clear i4
  have HW3 : Hid _ := own_below HW.out H2.out
  have BW3 : Hid _ := bstep BW.out H2.out
  have s23 : w2.heap.size ≤ w3.heap.size := H2.out.size
  have HWL : Hid (∀ g c, Value.slice wao n wcap = .slice (some ⟨g, 0, none⟩) n c → g < w2.heap.size) := fun g c h => by
    have := HW.out
    rw [h] at this
    exact (own_lt this).2
  clear HW BW H2
  go_loopw [10, 33] (fun _ i W_ => ∃ k : Nat, i = .int .i64 k ∧ k ≤ J ∧ Hid (W_.ownsRow w.heap.size 3 1 (.slice wao n wcap) n (ils (stL kind n xs k) n) ∧ W_.ownsRow w2.heap.size 3 1 (.slice lao J lcap) J (ils (fun j => (lnt n j : Int)) J) ∧ Below w.heap.size w W_)) (fun _ i _ => J - (intOf i).toNat)
  case atStart => exact ⟨0, rfl, by omega, HW3.out, H1.out, BW3.out⟩
  case round =>
    obtain ⟨k, rfl, hk2, hrel⟩ := hrel
    obtain ⟨hrow, hlen, hbel⟩ := hrel.out
    by_cases h1 : k < J
    · have hA1 := HJ.out.all k h1
      have hA2 := lnt_le n k
      have hk8 : k ≤ 8 := by have := HJ.out.le; omega
      rcases hlen.2 with ⟨hx, h0⟩ | ⟨lb, lc, lcur, hx, _⟩
      · omega
      rcases hrow.2 with ⟨hy, h0⟩ | ⟨g, gc, gcur, hy, _⟩
      · omega
      have hgw := HWL.out g gc hy
      rw [hx] at hlen
      rw [hy] at hrow
      injection hx with hx1 hx2 hx3
      subst hx1 hx3
      injection hy with hy1 hy2 hy3
      subst hy1 hy3
      have c := hlen.cellAt k (by omega)
      rw [ils_get h1] at c
      have hap : lb ≠ g := by have := (own_lt hlen).1; omega
      have ils1 : Il wr (.slice (some ⟨g, 0, none⟩) (lnt n k) wcap) (lnt n k) (stL kind n xs k) := by
        refine ⟨_, _, rfl, by omega, fun _ => ⟨g, 0, rfl, (own_lt hrow).2, fun j hj => ?_⟩⟩
        rw [Nat.zero_add, hrow.cellAt j (by omega), ils_get (by omega)]
      have i5 := iLifted_any hk ils1 (by omega) (M := 10000000000000) (by omega) (by omega) (fun j hj => stL_bound HS.out hk8 j (by omega))
      have HST : Hid (∀ i, stL kind n xs (k + 1) i = if i < lnt n k then lft kind (lnt n k) (stL kind n xs k) i else stL kind n xs k i) := fun _ => rfl
      have HROW : Hid _ := hrow
      have HLEN : Hid _ := hlen
      have HBEL : Hid _ := hbel
      clear hrow hlen hbel hrel ils1
      generalize lnt n k = A at hA1 hA2 c i5 HST
      generalize lft kind A (stL kind n xs k) = F at i5 HST
      go_wp2_with (first
        | (go_at_call 30; (with_reducible refine i5.mono ?_); rintro e w4 ⟨v2, rfl, o2, b2⟩; have R4 := own_below HROW.out b2; have L4 : Hid _ := own_below HLEN.out b2; have B4 : Hid _ := bstep HBEL.out b2; rcases o2.2 with ⟨_, h0⟩ | ⟨g2, c2, cur2, rfl, _⟩; (exact absurd h0 (by omega)); have SRC := o2.cells (g := g2) rfl; obtain ⟨w5, hcp, hnew, honly⟩ := copied_run (h := F) R4 hA2 SRC (c2 := c2); have HN : Hid (w5.ownsRow w.heap.size 3 1 (.slice (some ⟨g, 0, none⟩) n wcap) n (ils (fun i => if i < A then F i else stL kind n xs k i) n)) := hnew; have HON : Hid (Only g w4 w5) := honly; clear hnew honly R4 o2 SRC))
      have e9 : ils (fun i => if i < A then F i else stL kind n xs k i) n = ils (stL kind n xs (k + 1)) n := ils_congr fun i _ => (HST.out i).symm
      have R5 : Hid (w5.ownsRow w.heap.size 3 1 (.slice (some ⟨g, 0, none⟩) n wcap) n (ils (stL kind n xs (k + 1)) n)) := by show w5.ownsRow w.heap.size 3 1 (.slice (some ⟨g, 0, none⟩) n wcap) n (ils (stL kind n xs (k + 1)) n); rw [← e9]; exact HN.out
      have L5 : Hid (w5.ownsRow w2.heap.size 3 1 (.slice (some ⟨lb, 0, none⟩) J lcap) J (ils (fun j => (lnt n j : Int)) J)) := own_ne L4.out HON.out hap
      have hgb := own_lt R5.out
      have B5 : Hid (Below w.heap.size w w5) := Below.only B4.out HON.out hgb.1
      clear hcp e9 HN HON L4 B4 HROW HLEN HBEL HST
      go_roundw
      case rel => exact ⟨k + 1, by go_num, by omega, R5.out, L5.out, B5.out⟩
      case measure => simp [intOf]; omega
    · obtain rfl : J = k := by omega
      have R : Hid _ := hrow
      have RB : Hid _ := hbel
      clear hrel hrow hlen hbel
      go_wp2
      go_ret2
      exact ⟨_, rfl, R.out, RB.out⟩
end Go.Proofs.Ytbcjbighipeafaa
