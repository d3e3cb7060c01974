/- Sums of wide numbers: addFinite where the signs are the same. -/
import Derived.Test.YtcpnmcfpnhokgaaDoorHA5
import Derived.RegionTactic
import Derived.Deep.RegionWith
namespace Go.Proofs.YtcpnmcfpnhokgaaDoor
open Go.RowKit

set_option maxRecDepth 100000 in
set_option maxHeartbeats 8000000 in
theorem addF_na (mode : Int) (e1 m1 l1 e2 m2 l2 EX EY a b c d k p q : Int) (n1 n2 : Bool) (lx ly : Value) (lo cy s1 hi : Int) (w : World)
    (hLx : Rets 63 #[v5 1 e1 m1 l1 n1] lx) (hLy : Rets 63 #[v5 1 e2 m2 l2 n2] ly)
    (hSx : Rets 89 #[lx, .int .i64 1] (v5 1 EX a b n1)) (hSy : Rets 89 #[ly, .int .i64 1] (v5 1 EY c d n2))
    (hlt : decide (EX < EY) = false) (hw : IntKind.i64.wrap (EX - EY) = k) (hS : Rets 89 #[v5 1 EY c d n2, .int .i64 k] (v5 1 EX p q n2)) (hne : (n1 == n2) = true) (hA : ∀ w, (callFunc 91 #[.int .u64 b, .int .u64 q, .int .u64 0]).run Tryd.prog w = .ok (.value (.tuple #[.int .u64 lo, .int .u64 cy])) w) (hw1 : IntKind.u64.wrap (a + p) = s1) (hw2 : IntKind.u64.wrap (s1 + cy) = hi) :
    Calls Tryd.prog 62 #[.int .i64 mode, v5 1 e1 m1 l1 n1, v5 1 e2 m2 l2 n2] w fun e w' => e = .returned (v5 1 EX hi lo n1) ∧ Below w.heap.size w w' := by
  go_enter Tryd.func62, Tryd.ntmps62
  go_upto_region 1 with (fail)
  have h0 : W5 w.heap.size 1 e1 m1 l1 n1 (((w.alloc (Obj.cells #[.int .i64 1, .bool n1, .int .i64 e1, .int .u64 m1, .int .u64 l1] 42)).alloc (Obj.cells #[.int .i64 1, .bool n2, .int .i64 e2, .int .u64 m2, .int .u64 l2] 42)).alloc (Obj.cells #[.int .i64 0, .bool false, .int .i64 0, .int .u64 0, .int .u64 0] 42)) := ((w5_new w 1 e1 m1 l1 n1).below (below_one _)).below (below_one _)
  have h1 : W5 (w.heap.size + 1) 1 e2 m2 l2 n2 (((w.alloc (Obj.cells #[.int .i64 1, .bool n1, .int .i64 e1, .int .u64 m1, .int .u64 l1] 42)).alloc (Obj.cells #[.int .i64 1, .bool n2, .int .i64 e2, .int .u64 m2, .int .u64 l2] 42)).alloc (Obj.cells #[.int .i64 0, .bool false, .int .i64 0, .int .u64 0, .int .u64 0] 42)) := (w5_at _ _ (by simp) 1 e2 m2 l2 n2).below (below_one _)
  have h2 : W5 (w.heap.size + 1 + 1) 0 0 0 0 false (((w.alloc (Obj.cells #[.int .i64 1, .bool n1, .int .i64 e1, .int .u64 m1, .int .u64 l1] 42)).alloc (Obj.cells #[.int .i64 1, .bool n2, .int .i64 e2, .int .u64 m2, .int .u64 l2] 42)).alloc (Obj.cells #[.int .i64 0, .bool false, .int .i64 0, .int .u64 0, .int .u64 0] 42)) := w5_at _ _ (by simp) 0 0 0 0 false
  have hb0 : Below w.heap.size w (((w.alloc (Obj.cells #[.int .i64 1, .bool n1, .int .i64 e1, .int .u64 m1, .int .u64 l1] 42)).alloc (Obj.cells #[.int .i64 1, .bool n2, .int .i64 e2, .int .u64 m2, .int .u64 l2] 42)).alloc (Obj.cells #[.int .i64 0, .bool false, .int .i64 0, .int .u64 0, .int .u64 0] 42)) := bstep (below_two _ _) (below_one _)
  generalize (((w.alloc (Obj.cells #[.int .i64 1, .bool n1, .int .i64 e1, .int .u64 m1, .int .u64 l1] 42)).alloc (Obj.cells #[.int .i64 1, .bool n2, .int .i64 e2, .int .u64 m2, .int .u64 l2] 42)).alloc (Obj.cells #[.int .i64 0, .bool false, .int .i64 0, .int .u64 0, .int .u64 0] 42)) = V at *
  have HX : Hid (W5 w.heap.size 1 e1 m1 l1 n1 V.drew) := h0.drew
  have HY : Hid (W5 (w.heap.size + 1) 1 e2 m2 l2 n2 V.drew) := h1.drew
  have HZ : Hid (W5 (w.heap.size + 1 + 1) 0 0 0 0 false V.drew) := h2.drew
  have HB : Hid (Below w.heap.size w V.drew) := hb0.drew
  obtain ⟨a0, a1, a2, a3, a4, f0, f1, f2, f3, f4⟩ := h0
  obtain ⟨b0, b1, b2, b3, b4, g0, g1, g2, g3, g4⟩ := h1
  clear h2 hb0
  go_region_with (first
    | (go_at_call 63; (first | (with_reducible refine (hLx _).mono ?_) | (with_reducible refine (hLy _).mono ?_)); rintro e w' ⟨rfl, hb⟩; have HX : Hid _ := HX.out.below hb; have HY : Hid _ := HY.out.below hb; have HZ : Hid _ := HZ.out.below hb; have HB : Hid _ := bstep HB.out hb; obtain ⟨a0, a1, a2, a3, a4, f0, f1, f2, f3, f4⟩ := HX.out; obtain ⟨b0, b1, b2, b3, b4, g0, g1, g2, g3, g4⟩ := HY.out; clear hb)
    | (go_at_call 89; (first | (with_reducible refine (hSx _).mono ?_) | (with_reducible refine (hSy _).mono ?_)); rintro e w' ⟨rfl, hb⟩; have HX : Hid _ := HX.out.below hb; have HY : Hid _ := HY.out.below hb; have HZ : Hid _ := HZ.out.below hb; have HB : Hid _ := bstep HB.out hb; obtain ⟨a0, a1, a2, a3, a4, f0, f1, f2, f3, f4⟩ := HX.out; obtain ⟨b0, b1, b2, b3, b4, g0, g1, g2, g3, g4⟩ := HY.out; clear hb))
  all_goals
    have hx := put5_other (put5_same HX.out 1 EX a b n1) (show w.heap.size + 1 ≠ w.heap.size by omega) 1 EY c d n2
    have hy := put5_same (put5_other HY.out (show w.heap.size ≠ w.heap.size + 1 by omega) 1 EX a b n1) 1 EY c d n2
    have hq := put5_other (put5_other HZ.out (show w.heap.size ≠ w.heap.size + 1 + 1 by omega) 1 EX a b n1) (show w.heap.size + 1 ≠ w.heap.size + 1 + 1 by omega) 1 EY c d n2
    have hbb := put5_below (put5_below HB.out (Nat.le_refl _) 1 EX a b n1) (show w.heap.size ≤ w.heap.size + 1 by omega) 1 EY c d n2
    simp only [put5] at hx hy hq hbb
    refine gen5 (P := fun V => Exit.then _ _ _ _ V) hx hy hq hbb ?_
    clear HX HY HZ HB
    clear hx hy hq hbb
    intro V hx hy hq hbb
    obtain ⟨a0, a1, a2, a3, a4, f0, f1, f2, f3, f4⟩ := id hx
    obtain ⟨b0, b1, b2, b3, b4, g0, g1, g2, g3, g4⟩ := id hy
    go_upto_region 5 with (first
      | (go_at_call 89; refine (hS _).mono ?_; rintro e w2 ⟨rfl, hb2⟩; have hx2 := hx.below hb2; have hy2 := hy.below hb2; have hq2 := hq.below hb2; have hbb2 := bstep hbb hb2; obtain ⟨a0, a1, a2, a3, a4, f0, f1, f2, f3, f4⟩ := id hx2; obtain ⟨b0, b1, b2, b3, b4, g0, g1, g2, g3, g4⟩ := id hy2))
    have hx3 := put5_other hx2 (show w.heap.size + 1 ≠ w.heap.size by omega) 1 EX p q n2
    have hy3 := put5_same hy2 1 EX p q n2
    have hq3 := put5_other hq2 (show w.heap.size + 1 ≠ w.heap.size + 1 + 1 by omega) 1 EX p q n2
    have hbb3 := put5_below hbb2 (show w.heap.size ≤ w.heap.size + 1 by omega) 1 EX p q n2
    simp only [put5] at hx3 hy3 hq3 hbb3
    refine gen5 (P := fun V => Code.wp _ _ _ _ V) hx3 hy3 hq3 hbb3 ?_
    clear hx3 hy3 hq3 hbb3 hx2 hy2 hq2 hbb2
    intro V2 hx3 hy3 hq3 hbb3
    obtain ⟨a0, a1, a2, a3, a4, f0, f1, f2, f3, f4⟩ := id hx3
    obtain ⟨b0, b1, b2, b3, b4, g0, g1, g2, g3, g4⟩ := id hy3
    obtain ⟨d0, d1, d2, d3, d4, k0, k1, k2, k3, k4⟩ := id hq3
    go_wp2
    go_region
    all_goals
      go_wp2
      refine bodyPost_ret (v := v5 1 EX hi lo n1) (by simp [results, Tryd.results62, go_sem, d0, d1, d2, d3, d4]) rfl ⟨rfl, ?_⟩
      refine Below.drew ?_
      exact below_sc (below_sc (below_sc (below_sc (below_sc (below_sc (below_sc hbb3 (Nat.le_refl _) _) (Nat.le_refl _) _) (le2 _) _) (le2 _) _) (le2 _) _) (le2 _) _) (le2 _) _

set_option maxRecDepth 100000 in
set_option maxHeartbeats 8000000 in
theorem addF_sa (mode : Int) (e1 m1 l1 e2 m2 l2 EX EY a b c d k p q : Int) (n1 n2 : Bool) (lx ly : Value) (lo cy s1 hi : Int) (w : World)
    (hLx : Rets 63 #[v5 1 e1 m1 l1 n1] lx) (hLy : Rets 63 #[v5 1 e2 m2 l2 n2] ly)
    (hSx : Rets 89 #[lx, .int .i64 1] (v5 1 EX a b n1)) (hSy : Rets 89 #[ly, .int .i64 1] (v5 1 EY c d n2))
    (hlt : decide (EX < EY) = true) (hw : IntKind.i64.wrap (EY - EX) = k) (hS : Rets 89 #[v5 1 EX a b n1, .int .i64 k] (v5 1 EY p q n1)) (hne : (n2 == n1) = true) (hA : ∀ w, (callFunc 91 #[.int .u64 d, .int .u64 q, .int .u64 0]).run Tryd.prog w = .ok (.value (.tuple #[.int .u64 lo, .int .u64 cy])) w) (hw1 : IntKind.u64.wrap (c + p) = s1) (hw2 : IntKind.u64.wrap (s1 + cy) = hi) :
    Calls Tryd.prog 62 #[.int .i64 mode, v5 1 e1 m1 l1 n1, v5 1 e2 m2 l2 n2] w fun e w' => e = .returned (v5 1 EY hi lo n2) ∧ Below w.heap.size w w' := by
  go_enter Tryd.func62, Tryd.ntmps62
  go_upto_region 1 with (fail)
  have h0 : W5 w.heap.size 1 e1 m1 l1 n1 (((w.alloc (Obj.cells #[.int .i64 1, .bool n1, .int .i64 e1, .int .u64 m1, .int .u64 l1] 42)).alloc (Obj.cells #[.int .i64 1, .bool n2, .int .i64 e2, .int .u64 m2, .int .u64 l2] 42)).alloc (Obj.cells #[.int .i64 0, .bool false, .int .i64 0, .int .u64 0, .int .u64 0] 42)) := ((w5_new w 1 e1 m1 l1 n1).below (below_one _)).below (below_one _)
  have h1 : W5 (w.heap.size + 1) 1 e2 m2 l2 n2 (((w.alloc (Obj.cells #[.int .i64 1, .bool n1, .int .i64 e1, .int .u64 m1, .int .u64 l1] 42)).alloc (Obj.cells #[.int .i64 1, .bool n2, .int .i64 e2, .int .u64 m2, .int .u64 l2] 42)).alloc (Obj.cells #[.int .i64 0, .bool false, .int .i64 0, .int .u64 0, .int .u64 0] 42)) := (w5_at _ _ (by simp) 1 e2 m2 l2 n2).below (below_one _)
  have h2 : W5 (w.heap.size + 1 + 1) 0 0 0 0 false (((w.alloc (Obj.cells #[.int .i64 1, .bool n1, .int .i64 e1, .int .u64 m1, .int .u64 l1] 42)).alloc (Obj.cells #[.int .i64 1, .bool n2, .int .i64 e2, .int .u64 m2, .int .u64 l2] 42)).alloc (Obj.cells #[.int .i64 0, .bool false, .int .i64 0, .int .u64 0, .int .u64 0] 42)) := w5_at _ _ (by simp) 0 0 0 0 false
  have hb0 : Below w.heap.size w (((w.alloc (Obj.cells #[.int .i64 1, .bool n1, .int .i64 e1, .int .u64 m1, .int .u64 l1] 42)).alloc (Obj.cells #[.int .i64 1, .bool n2, .int .i64 e2, .int .u64 m2, .int .u64 l2] 42)).alloc (Obj.cells #[.int .i64 0, .bool false, .int .i64 0, .int .u64 0, .int .u64 0] 42)) := bstep (below_two _ _) (below_one _)
  generalize (((w.alloc (Obj.cells #[.int .i64 1, .bool n1, .int .i64 e1, .int .u64 m1, .int .u64 l1] 42)).alloc (Obj.cells #[.int .i64 1, .bool n2, .int .i64 e2, .int .u64 m2, .int .u64 l2] 42)).alloc (Obj.cells #[.int .i64 0, .bool false, .int .i64 0, .int .u64 0, .int .u64 0] 42)) = V at *
  have HX : Hid (W5 w.heap.size 1 e1 m1 l1 n1 V.drew) := h0.drew
  have HY : Hid (W5 (w.heap.size + 1) 1 e2 m2 l2 n2 V.drew) := h1.drew
  have HZ : Hid (W5 (w.heap.size + 1 + 1) 0 0 0 0 false V.drew) := h2.drew
  have HB : Hid (Below w.heap.size w V.drew) := hb0.drew
  obtain ⟨a0, a1, a2, a3, a4, f0, f1, f2, f3, f4⟩ := h0
  obtain ⟨b0, b1, b2, b3, b4, g0, g1, g2, g3, g4⟩ := h1
  clear h2 hb0
  go_region_with (first
    | (go_at_call 63; (first | (with_reducible refine (hLx _).mono ?_) | (with_reducible refine (hLy _).mono ?_)); rintro e w' ⟨rfl, hb⟩; have HX : Hid _ := HX.out.below hb; have HY : Hid _ := HY.out.below hb; have HZ : Hid _ := HZ.out.below hb; have HB : Hid _ := bstep HB.out hb; obtain ⟨a0, a1, a2, a3, a4, f0, f1, f2, f3, f4⟩ := HX.out; obtain ⟨b0, b1, b2, b3, b4, g0, g1, g2, g3, g4⟩ := HY.out; clear hb)
    | (go_at_call 89; (first | (with_reducible refine (hSx _).mono ?_) | (with_reducible refine (hSy _).mono ?_)); rintro e w' ⟨rfl, hb⟩; have HX : Hid _ := HX.out.below hb; have HY : Hid _ := HY.out.below hb; have HZ : Hid _ := HZ.out.below hb; have HB : Hid _ := bstep HB.out hb; obtain ⟨a0, a1, a2, a3, a4, f0, f1, f2, f3, f4⟩ := HX.out; obtain ⟨b0, b1, b2, b3, b4, g0, g1, g2, g3, g4⟩ := HY.out; clear hb))
  all_goals
    have hx := put5_other (put5_same HX.out 1 EX a b n1) (show w.heap.size + 1 ≠ w.heap.size by omega) 1 EY c d n2
    have hy := put5_same (put5_other HY.out (show w.heap.size ≠ w.heap.size + 1 by omega) 1 EX a b n1) 1 EY c d n2
    have hq := put5_other (put5_other HZ.out (show w.heap.size ≠ w.heap.size + 1 + 1 by omega) 1 EX a b n1) (show w.heap.size + 1 ≠ w.heap.size + 1 + 1 by omega) 1 EY c d n2
    have hbb := put5_below (put5_below HB.out (Nat.le_refl _) 1 EX a b n1) (show w.heap.size ≤ w.heap.size + 1 by omega) 1 EY c d n2
    simp only [put5] at hx hy hq hbb
    refine gen5 (P := fun V => Exit.then _ _ _ _ V) hx hy hq hbb ?_
    clear HX HY HZ HB
    clear hx hy hq hbb
    intro V hx hy hq hbb
    obtain ⟨a0, a1, a2, a3, a4, f0, f1, f2, f3, f4⟩ := id hx
    obtain ⟨b0, b1, b2, b3, b4, g0, g1, g2, g3, g4⟩ := id hy
    go_upto_region 5 with (first
      | (go_at_call 89; refine (hS _).mono ?_; rintro e w2 ⟨rfl, hb2⟩
         have hx1 := put5_other (put5_same hx 1 EY c d n2) (show w.heap.size + 1 ≠ w.heap.size by omega) 1 EX a b n1
         have hy1 := put5_same (put5_other hy (show w.heap.size ≠ w.heap.size + 1 by omega) 1 EY c d n2) 1 EX a b n1
         have hq1 := put5_other (put5_other hq (show w.heap.size ≠ w.heap.size + 1 + 1 by omega) 1 EY c d n2) (show w.heap.size + 1 ≠ w.heap.size + 1 + 1 by omega) 1 EX a b n1
         have hbb1 := put5_below (put5_below hbb (Nat.le_refl _) 1 EY c d n2) (show w.heap.size ≤ w.heap.size + 1 by omega) 1 EX a b n1
         simp only [put5] at hx1 hy1 hq1 hbb1
         have hx2 := hx1.below hb2; have hy2 := hy1.below hb2; have hq2 := hq1.below hb2; have hbb2 := bstep hbb1 hb2; clear hx1 hy1 hq1 hbb1; obtain ⟨a0, a1, a2, a3, a4, f0, f1, f2, f3, f4⟩ := id hx2; obtain ⟨b0, b1, b2, b3, b4, g0, g1, g2, g3, g4⟩ := id hy2))
    have hx3 := put5_other hx2 (show w.heap.size + 1 ≠ w.heap.size by omega) 1 EY p q n1
    have hy3 := put5_same hy2 1 EY p q n1
    have hq3 := put5_other hq2 (show w.heap.size + 1 ≠ w.heap.size + 1 + 1 by omega) 1 EY p q n1
    have hbb3 := put5_below hbb2 (show w.heap.size ≤ w.heap.size + 1 by omega) 1 EY p q n1
    simp only [put5] at hx3 hy3 hq3 hbb3
    refine gen5 (P := fun V => Code.wp _ _ _ _ V) hx3 hy3 hq3 hbb3 ?_
    clear hx3 hy3 hq3 hbb3 hx2 hy2 hq2 hbb2
    intro V2 hx3 hy3 hq3 hbb3
    obtain ⟨a0, a1, a2, a3, a4, f0, f1, f2, f3, f4⟩ := id hx3
    obtain ⟨b0, b1, b2, b3, b4, g0, g1, g2, g3, g4⟩ := id hy3
    obtain ⟨d0, d1, d2, d3, d4, k0, k1, k2, k3, k4⟩ := id hq3
    go_wp2
    go_region
    all_goals
      go_wp2
      refine bodyPost_ret (v := v5 1 EY hi lo n2) (by simp [results, Tryd.results62, go_sem, d0, d1, d2, d3, d4]) rfl ⟨rfl, ?_⟩
      refine Below.drew ?_
      exact below_sc (below_sc (below_sc (below_sc (below_sc (below_sc (below_sc hbb3 (Nat.le_refl _) _) (Nat.le_refl _) _) (le2 _) _) (le2 _) _) (le2 _) _) (le2 _) _) (le2 _) _

end Go.Proofs.YtcpnmcfpnhokgaaDoor
