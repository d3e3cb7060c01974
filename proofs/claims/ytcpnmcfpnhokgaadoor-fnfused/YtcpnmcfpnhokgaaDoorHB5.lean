/- The model's Add: the walks. -/
import Derived.Test.YtcpnmcfpnhokgaaDoorM4
import Derived.Test.YtcpnmcfpnhokgaaDoorHM5
import Derived.RegionTactic
import Derived.Deep.RegionWith
import Derived.Test.YtcpnmcfpnhokgaaDoorHZ1
namespace Go.Proofs.YtcpnmcfpnhokgaaDoor
open Go.RowKit

set_option maxRecDepth 100000 in
theorem sadd_bad (f mode x y : Int) (w : World)
    (hA0 : ∀ W v, Lu W v 2 (fun k => if k = 0 then x else y) → Calls Tryd.prog 29 #[.int .i64 f, .int .i64 mode, v] W fun e w' => e = .returned (.bool false) ∧ w' = W) :
    Calls Tryd.prog 10 #[.int .i64 f, .int .i64 mode, .int .u64 x, .int .u64 y] w fun e w' => e = .returned (.tuple #[.int .u64 0, .int .i64 0]) ∧ Below w.heap.size w w' := by
  have hA1 := hA0 _ _ (lu_two x y w w.heap.size rfl)
  clear hA0
  go_enter Tryd.func10, Tryd.ntmps10
  go_wp2_with (go_at_call 29; refine hA1.mono ?_; rintro e w' ⟨rfl, hw⟩; obtain rfl := hw.symm)
  go_ret2
  exact ⟨rfl, below_one _⟩

set_option maxRecDepth 100000 in
theorem sadd_nan (f mode x y pl fl : Int) (w : World)
    (hA0 : ∀ W v, Lu W v 2 (fun k => if k = 0 then x else y) → Calls Tryd.prog 29 #[.int .i64 f, .int .i64 mode, v] W fun e w' => e = .returned (.bool true) ∧ w' = W)
    (hN0 : ∀ W v, Lu W v 2 (fun k => if k = 0 then x else y) → Calls Tryd.prog 30 #[.int .i64 f, v] W fun e w' => e = .returned (.tuple #[.int .u64 pl, .int .i64 fl, .bool true]) ∧ Below W.heap.size W w') :
    Calls Tryd.prog 10 #[.int .i64 f, .int .i64 mode, .int .u64 x, .int .u64 y] w fun e w' => e = .returned (.tuple #[.int .u64 pl, .int .i64 fl]) ∧ Below w.heap.size w w' := by
  have hA1 := hA0 _ _ (lu_two x y w w.heap.size rfl)
  have hN1 := hN0 _ _ (lu_two x y (w.alloc (.cells #[.int .u64 x, .int .u64 y] 24)) (w.heap.size + 1) (by simp))
  clear hA0 hN0
  go_enter Tryd.func10, Tryd.ntmps10
  go_wp2_with (first | (go_at_call 29; refine hA1.mono ?_; rintro e w' ⟨rfl, hw⟩; obtain rfl := hw.symm) | (go_at_call 30; refine hN1.mono ?_; rintro e w1 ⟨rfl, hb1⟩))
  go_ret2
  exact ⟨rfl, bstep (below_two _ _) hb1⟩

set_option maxRecDepth 100000 in
set_option maxHeartbeats 2000000 in
theorem sadd_x (f mode x y ka kb ea eb A B pl hl : Int) (na nb : Bool) (w : World) (h : (ka = 2 ∧ (kb = 0 ∨ kb = 1)) ∨ (ka = 2 ∧ kb = 2 ∧ na = nb))
    (hA0 : ∀ W v, Lu W v 2 (fun k => if k = 0 then x else y) → Calls Tryd.prog 29 #[.int .i64 f, .int .i64 mode, v] W fun e w' => e = .returned (.bool true) ∧ w' = W)
    (hN0 : ∀ W v, Lu W v 2 (fun k => if k = 0 then x else y) → Calls Tryd.prog 30 #[.int .i64 f, v] W fun e w' => e = .returned (.tuple #[.int .u64 pl, .int .i64 hl, .bool false]) ∧ Below W.heap.size W w')
    (hUa : ∀ W, Calls Tryd.prog 12 #[.int .i64 f, .int .u64 x] W fun e w' => e = .returned (.agg #[.int .i64 ka, .bool na, .int .i64 ea, .int .u64 A]) ∧ Below W.heap.size W w')
    (hUb : ∀ W, Calls Tryd.prog 12 #[.int .i64 f, .int .u64 y] W fun e w' => e = .returned (.agg #[.int .i64 kb, .bool nb, .int .i64 eb, .int .u64 B]) ∧ Below W.heap.size W w') :
    Calls Tryd.prog 10 #[.int .i64 f, .int .i64 mode, .int .u64 x, .int .u64 y] w fun e w' => e = .returned (.tuple #[.int .u64 x, .int .i64 0]) ∧ Below w.heap.size w w' := by
  have hA1 := hA0 _ _ (lu_two x y w w.heap.size rfl)
  have hN1 := hN0 _ _ (lu_two x y (w.alloc (.cells #[.int .u64 x, .int .u64 y] 24)) (w.heap.size + 1) (by simp))
  clear hA0 hN0
  rcases h with ⟨rfl, rfl | rfl⟩ | ⟨rfl, rfl, rfl⟩
  all_goals
    have n0 : (na == na) = true := by simp
    go_enter Tryd.func10, Tryd.ntmps10
    go_wp2_with (first | (go_at_call 29; refine hA1.mono ?_; rintro e w' ⟨rfl, hw⟩; obtain rfl := hw.symm) | (go_at_call 30; refine hN1.mono ?_; rintro e w1 ⟨rfl, hb1⟩) | (go_at_call 12; with_reducible refine (hUa _).mono ?_; rintro e w2 ⟨rfl, hb2⟩) | (go_at_call 12; with_reducible refine (hUb _).mono ?_; rintro e w3 ⟨rfl, hb3⟩))
    go_ret2
    exact ⟨rfl, (bstep (bstep (bstep (below_two _ _) hb1) hb2) hb3).trans ((below_two _ _).mono (bstep (bstep (bstep (below_two _ _) hb1) hb2) hb3).size)⟩

set_option maxRecDepth 100000 in
set_option maxHeartbeats 2000000 in
theorem sadd_y (f mode x y ka kb ea eb A B pl hl : Int) (na nb : Bool) (w : World) (h : (ka = 0 ∨ ka = 1) ∧ kb = 2)
    (hA0 : ∀ W v, Lu W v 2 (fun k => if k = 0 then x else y) → Calls Tryd.prog 29 #[.int .i64 f, .int .i64 mode, v] W fun e w' => e = .returned (.bool true) ∧ w' = W)
    (hN0 : ∀ W v, Lu W v 2 (fun k => if k = 0 then x else y) → Calls Tryd.prog 30 #[.int .i64 f, v] W fun e w' => e = .returned (.tuple #[.int .u64 pl, .int .i64 hl, .bool false]) ∧ Below W.heap.size W w')
    (hUa : ∀ W, Calls Tryd.prog 12 #[.int .i64 f, .int .u64 x] W fun e w' => e = .returned (.agg #[.int .i64 ka, .bool na, .int .i64 ea, .int .u64 A]) ∧ Below W.heap.size W w')
    (hUb : ∀ W, Calls Tryd.prog 12 #[.int .i64 f, .int .u64 y] W fun e w' => e = .returned (.agg #[.int .i64 kb, .bool nb, .int .i64 eb, .int .u64 B]) ∧ Below W.heap.size W w') :
    Calls Tryd.prog 10 #[.int .i64 f, .int .i64 mode, .int .u64 x, .int .u64 y] w fun e w' => e = .returned (.tuple #[.int .u64 y, .int .i64 0]) ∧ Below w.heap.size w w' := by
  have hA1 := hA0 _ _ (lu_two x y w w.heap.size rfl)
  have hN1 := hN0 _ _ (lu_two x y (w.alloc (.cells #[.int .u64 x, .int .u64 y] 24)) (w.heap.size + 1) (by simp))
  clear hA0 hN0
  rcases h with ⟨rfl | rfl, rfl⟩
  all_goals
    have n0 : (na == na) = true := by simp
    go_enter Tryd.func10, Tryd.ntmps10
    go_wp2_with (first | (go_at_call 29; refine hA1.mono ?_; rintro e w' ⟨rfl, hw⟩; obtain rfl := hw.symm) | (go_at_call 30; refine hN1.mono ?_; rintro e w1 ⟨rfl, hb1⟩) | (go_at_call 12; with_reducible refine (hUa _).mono ?_; rintro e w2 ⟨rfl, hb2⟩) | (go_at_call 12; with_reducible refine (hUb _).mono ?_; rintro e w3 ⟨rfl, hb3⟩))
    go_ret2
    exact ⟨rfl, (bstep (bstep (bstep (below_two _ _) hb1) hb2) hb3).trans ((below_two _ _).mono (bstep (bstep (bstep (below_two _ _) hb1) hb2) hb3).size)⟩

set_option maxRecDepth 100000 in
set_option maxHeartbeats 2000000 in
theorem sadd_n (f mode x y ka kb ea eb A B pl hl : Int) (na nb : Bool) (w : World) (h : ka = 2 ∧ kb = 2 ∧ (na == nb) = false)
    (hA0 : ∀ W v, Lu W v 2 (fun k => if k = 0 then x else y) → Calls Tryd.prog 29 #[.int .i64 f, .int .i64 mode, v] W fun e w' => e = .returned (.bool true) ∧ w' = W)
    (hN0 : ∀ W v, Lu W v 2 (fun k => if k = 0 then x else y) → Calls Tryd.prog 30 #[.int .i64 f, v] W fun e w' => e = .returned (.tuple #[.int .u64 pl, .int .i64 hl, .bool false]) ∧ Below W.heap.size W w')
    (hUa : ∀ W, Calls Tryd.prog 12 #[.int .i64 f, .int .u64 x] W fun e w' => e = .returned (.agg #[.int .i64 ka, .bool na, .int .i64 ea, .int .u64 A]) ∧ Below W.heap.size W w')
    (hUb : ∀ W, Calls Tryd.prog 12 #[.int .i64 f, .int .u64 y] W fun e w' => e = .returned (.agg #[.int .i64 kb, .bool nb, .int .i64 eb, .int .u64 B]) ∧ Below W.heap.size W w') (P : Int) (hP : ∀ w, Calls Tryd.prog 31 #[.int .i64 f] w fun e w' => e = .returned (.int .u64 P) ∧ w' = w) :
    Calls Tryd.prog 10 #[.int .i64 f, .int .i64 mode, .int .u64 x, .int .u64 y] w fun e w' => e = .returned (.tuple #[.int .u64 P, .int .i64 16]) ∧ Below w.heap.size w w' := by
  have hA1 := hA0 _ _ (lu_two x y w w.heap.size rfl)
  have hN1 := hN0 _ _ (lu_two x y (w.alloc (.cells #[.int .u64 x, .int .u64 y] 24)) (w.heap.size + 1) (by simp))
  clear hA0 hN0
  obtain ⟨rfl, rfl, n1⟩ := h
  all_goals
    have n0 : (na == na) = true := by simp
    go_enter Tryd.func10, Tryd.ntmps10
    go_wp2_with (first | (go_at_call 29; refine hA1.mono ?_; rintro e w' ⟨rfl, hw⟩; obtain rfl := hw.symm) | (go_at_call 30; refine hN1.mono ?_; rintro e w1 ⟨rfl, hb1⟩) | (go_at_call 12; with_reducible refine (hUa _).mono ?_; rintro e w2 ⟨rfl, hb2⟩) | (go_at_call 12; with_reducible refine (hUb _).mono ?_; rintro e w3 ⟨rfl, hb3⟩) | (go_at_call 31; refine (hP _).mono ?_; rintro e w' ⟨rfl, hw⟩; obtain rfl := hw.symm))
    go_ret2
    exact ⟨rfl, (bstep (bstep (bstep (below_two _ _) hb1) hb2) hb3).trans ((below_two _ _).mono (bstep (bstep (bstep (below_two _ _) hb1) hb2) hb3).size)⟩

end Go.Proofs.YtcpnmcfpnhokgaaDoor

/- The model's Add of two finite numbers: the walk. -/
namespace Go.Proofs.YtcpnmcfpnhokgaaDoor
open Go.RowKit

set_option maxHeartbeats 40000000 in
set_option maxRecDepth 100000 in
theorem sadd_fin (f mode x y ka kb ea eb pl hl V F : Int) (A B : Nat) (na nb : Bool) (w : World) (hka : ka = 0 ∨ ka = 1) (hkb : kb = 0 ∨ kb = 1) (hA : A < 18446744073709551616) (hB : B < 18446744073709551616)
    (hA0 : ∀ W v, Lu W v 2 (fun k => if k = 0 then x else y) → Calls Tryd.prog 29 #[.int .i64 f, .int .i64 mode, v] W fun e w' => e = .returned (.bool true) ∧ w' = W)
    (hN0 : ∀ W v, Lu W v 2 (fun k => if k = 0 then x else y) → Calls Tryd.prog 30 #[.int .i64 f, v] W fun e w' => e = .returned (.tuple #[.int .u64 pl, .int .i64 hl, .bool false]) ∧ Below W.heap.size W w')
    (hUa : ∀ W, Calls Tryd.prog 12 #[.int .i64 f, .int .u64 x] W fun e w' => e = .returned (.agg #[.int .i64 ka, .bool na, .int .i64 ea, .int .u64 (A : Int)]) ∧ Below W.heap.size W w')
    (hUb : ∀ W, Calls Tryd.prog 12 #[.int .i64 f, .int .u64 y] W fun e w' => e = .returned (.agg #[.int .i64 kb, .bool nb, .int .i64 eb, .int .u64 (B : Int)]) ∧ Below W.heap.size W w')
    (hS : ∀ W va vb, Nt W va 5 A → Nt W vb 5 B → Calls Tryd.prog 32 #[.int .i64 f, .int .i64 mode, .bool na, va, .int .i64 ea, .bool nb, vb, .int .i64 eb] W fun e w' => e = .returned (.tuple #[.int .u64 V, .int .i64 F]) ∧ Below W.heap.size W w') :
    Calls Tryd.prog 10 #[.int .i64 f, .int .i64 mode, .int .u64 x, .int .u64 y] w fun e w' => e = .returned (.tuple #[.int .u64 V, .int .i64 F]) ∧ Below w.heap.size w w' := by
  have hA1 := hA0 _ _ (lu_two x y w w.heap.size rfl)
  have hN1 := hN0 _ _ (lu_two x y (w.alloc (.cells #[.int .u64 x, .int .u64 y] 24)) (w.heap.size + 1) (by simp))
  have k1 : (ka == 2) = false := by rcases hka with rfl | rfl <;> rfl
  have k2 : (kb == 2) = false := by rcases hkb with rfl | rfl <;> rfl
  have hNa := fun w => nat_any A hA w
  have hNb := fun w => nat_any B hB w
  clear hA0 hN0 hka hkb hA hB
  go_enter Tryd.func10, Tryd.ntmps10
  go_wp2_with (first | (go_at_call 29; refine hA1.mono ?_; rintro e w' ⟨rfl, hw⟩; obtain rfl := hw.symm) | (go_at_call 30; refine hN1.mono ?_; rintro e w1 ⟨rfl, hb1⟩) | (go_at_call 12; with_reducible refine (hUa _).mono ?_; rintro e w2 ⟨rfl, hb2⟩) | (go_at_call 12; with_reducible refine (hUb _).mono ?_; rintro e w3 ⟨rfl, hb3⟩))
  generalize hW : ((w3.alloc _).alloc _) = W
  have hc : Below w.heap.size w w3 := bstep (bstep (bstep (below_two _ _) hb1) hb2) hb3
  have hl8 : L8 w3.heap.size ka ea A kb eb B na nb w.heap.size w W := by
    subst hW
    exact l8_start hc hc.size ka ea A kb eb B na nb
  clear hW hA1 hN1 hUa hUb hb1 hb2 hb3 hc
  generalize w3.heap.size = G at *
  have h1 : Calls Tryd.prog 33 #[.int .u64 (A : Int)] W.drew fun e w' => ∃ v, e = .returned v ∧ Nt w' v 2 A ∧ L8 G ka ea A kb eb B na nb w.heap.size w w' := by
    refine (hNa W.drew).mono ?_
    rintro e w' ⟨hb, v, rfl, hv⟩
    exact ⟨v, rfl, hv, (hl8.step (Below.refl _ _).drew).step hb⟩
  have h2 : ∀ X v1, Nt X v1 2 A → L8 G ka ea A kb eb B na nb w.heap.size w X → Calls Tryd.prog 33 #[.int .u64 (B : Int)] X fun e w' => ∃ v, e = .returned v ∧ Nt w' v 2 B ∧ Nt w' v1 2 A ∧ L8 G ka ea A kb eb B na nb w.heap.size w w' := fun X v1 hv1 hX => by
    refine (hNb X).mono ?_
    rintro e w' ⟨hb, v, rfl, hv⟩
    exact ⟨v, rfl, hv, hv1.below hb, hX.step hb⟩
  have h4 : ∀ X v1 v2, Nt X v1 2 A → Nt X v2 2 B → L8 G ka ea A kb eb B na nb w.heap.size w X → Calls Tryd.prog 32 #[.int .i64 f, .int .i64 mode, .bool na, v1, .int .i64 ea, .bool nb, v2, .int .i64 eb] X fun e w' => e = .returned (.tuple #[.int .u64 V, .int .i64 F]) ∧ L8 G ka ea A kb eb B na nb w.heap.size w w' := fun X v1 v2 hv1 hv2 hX => by
    refine (hS X v1 v2 (hv1.mono (by decide)) (hv2.mono (by decide))).mono ?_
    rintro e w' ⟨rfl, hb⟩
    exact ⟨rfl, hX.step hb⟩
  have l0 : L8 G ka ea A kb eb B na nb w.heap.size w W.drew := hl8.step (Below.refl _ _).drew
  clear hS hl8 hNa hNb
  refine wp_region_any (by kernel_rfl) ?_
  change wpAny _ _ _ _ _ _ _ (World.drew _)
  refine wpI_any (I := fun X => L8 G ka ea A kb eb B na nb w.heap.size w X) _ _ _ _ ?_
  refine wpI_take (i := 0) (v := ?_) rfl (by kernel_rfl) (by kernel_rfl) (by kernel_rfl) (fun _ _ _ h => h) ⟨by rfl, ?_⟩ ?_
  rotate_left
  · intro X _; go_simp; with_reducible rfl
  refine wpI_take (i := 1) (v := ?_) rfl (by kernel_rfl) (by kernel_rfl) (by kernel_rfl) (fun _ _ _ h => h) ⟨by rfl, ?_⟩ ?_
  rotate_left
  · intro X _; go_simp; with_reducible rfl
  refine wpI_take (i := 2) (v := ?_) rfl (by kernel_rfl) (by kernel_rfl) (by kernel_rfl) (fun _ _ _ h => h) ⟨by rfl, ?_⟩ ?_
  rotate_left
  · intro X _; go_simp; with_reducible rfl
  refine wpI_take (i := 4) (v := ?_) rfl (by kernel_rfl) (by kernel_rfl) (by kernel_rfl) (fun _ _ _ h => h) ⟨by rfl, ?_⟩ ?_
  rotate_left
  · intro X _; go_simp; with_reducible rfl
  refine wpI_take (i := 7) (v := ?_) rfl (by kernel_rfl) (by kernel_rfl) (by kernel_rfl) (fun _ _ _ h => h) ⟨by rfl, ?_⟩ ?_
  rotate_left
  · intro X _; go_simp; with_reducible rfl
  refine wpI_take (i := 9) (v := ?_) rfl (by kernel_rfl) (by kernel_rfl) (by kernel_rfl) (fun _ _ _ h => h) ⟨by rfl, ?_⟩ ?_
  rotate_left
  · intro X _; go_simp; with_reducible rfl
  refine wpI_take (i := 11) (v := ?_) rfl (by kernel_rfl) (by kernel_rfl) (by kernel_rfl) (fun _ _ _ h => h) ⟨by rfl, ?_⟩ ?_
  rotate_left
  · intro X _; go_simp; with_reducible rfl
  refine wpI_take (i := 14) (v := ?_) rfl (by kernel_rfl) (by kernel_rfl) (by kernel_rfl) (fun _ _ _ h => h) ⟨by rfl, ?_⟩ ?_
  rotate_left
  · intro X _; go_simp; with_reducible rfl
  refine wpI_take (i := 3) (v := ?_) rfl (by kernel_rfl) (by kernel_rfl) (by kernel_rfl) (fun _ _ _ h => h) ⟨by rfl, ?_⟩ ?_
  rotate_left
  · intro X hI; have c := hI.a1; go_simp; with_reducible rfl
  refine wpI_take (i := 5) (v := ?_) rfl (by kernel_rfl) (by kernel_rfl) (by kernel_rfl) (fun _ _ _ h => h) ⟨by rfl, ?_⟩ ?_
  rotate_left
  · intro X hI; have c := hI.a3; go_simp; with_reducible rfl
  refine wpI_take (i := 8) (v := ?_) rfl (by kernel_rfl) (by kernel_rfl) (by kernel_rfl) (fun _ _ _ h => h) ⟨by rfl, ?_⟩ ?_
  rotate_left
  · intro X hI; have c := hI.a2; go_simp; with_reducible rfl
  refine wpI_take (i := 10) (v := ?_) rfl (by kernel_rfl) (by kernel_rfl) (by kernel_rfl) (fun _ _ _ h => h) ⟨by rfl, ?_⟩ ?_
  rotate_left
  · intro X hI; have c := hI.b1; go_simp; with_reducible rfl
  refine wpI_take (i := 12) (v := ?_) rfl (by kernel_rfl) (by kernel_rfl) (by kernel_rfl) (fun _ _ _ h => h) ⟨by rfl, ?_⟩ ?_
  rotate_left
  · intro X hI; have c := hI.b3; go_simp; with_reducible rfl
  refine wpI_take (i := 15) (v := ?_) rfl (by kernel_rfl) (by kernel_rfl) (by kernel_rfl) (fun _ _ _ h => h) ⟨by rfl, ?_⟩ ?_
  rotate_left
  · intro X hI; have c := hI.b2; go_simp; with_reducible rfl
  refine wpI_only (i := 6) rfl (by kernel_rfl) l0 (by rfl) ?_
  intro K hK
  go_simp
  go_wp2_with (go_at_call 33; refine h1.mono ?_; rintro e x1 ⟨v1, rfl, n1, l1⟩)
  refine wpI_only (i := 13) rfl (by kernel_rfl) l1 (by rfl) ?_
  intro K hK
  go_simp
  go_wp2_with (go_at_call 33; refine (h2 _ _ n1 l1).mono ?_; rintro e x2 ⟨v2, rfl, n2, n1', l2⟩)
  refine wpI_only (i := 16) rfl (by kernel_rfl) l2 (by rfl) ?_
  intro K hK
  go_simp
  go_wp2_with (go_at_call 32; refine (h4 _ _ _ n1' n2 l2).mono ?_; rintro e x4 ⟨rfl, l4⟩)
  refine wpI_take (i := 17) (v := ?_) rfl (by kernel_rfl) (by kernel_rfl) (by kernel_rfl) (fun _ _ _ h => h) ⟨by rfl, ?_⟩ ?_
  rotate_left
  · intro X _; go_simp; with_reducible rfl
  refine wpI_take (i := 18) (v := ?_) rfl (by kernel_rfl) (by kernel_rfl) (by kernel_rfl) (fun _ _ _ h => h) ⟨by rfl, ?_⟩ ?_
  rotate_left
  · intro X _; go_simp; with_reducible rfl
  refine wpI_take (i := 19) (v := ?_) rfl (by kernel_rfl) (by kernel_rfl) (by kernel_rfl) (fun _ _ _ h => h) ⟨by rfl, ?_⟩ ?_
  rotate_left
  · intro X _; go_simp; with_reducible rfl
  refine wpI_take (i := 20) (v := ?_) rfl (by kernel_rfl) (by kernel_rfl) (by kernel_rfl) (fun _ _ _ h => h) ⟨by rfl, ?_⟩ ?_
  rotate_left
  · intro X _; go_simp; with_reducible rfl
  refine wpI_done l4 (by kernel_rfl) ?_ _
  go_wp2
  go_ret2
  exact ⟨rfl, l4.bl⟩

end Go.Proofs.YtcpnmcfpnhokgaaDoor
