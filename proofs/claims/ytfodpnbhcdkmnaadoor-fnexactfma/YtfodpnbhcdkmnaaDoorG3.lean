/- The model's Fma of three finite numbers: the walk. -/
import Derived.Test.YtfodpnbhcdkmnaaDoorG2
import Derived.RegionTactic
import Derived.Deep.RegionWith
import Derived.Test.YtfodpnbhcdkmnaaDoorI1
namespace Go.Proofs.YtfodpnbhcdkmnaaDoor
open Go.RowKit

set_option maxHeartbeats 40000000 in
set_option maxRecDepth 100000 in
theorem sfma_fin (f mode x y z ka kb kc ea eb ec pl hl V F : Int) (A B C : Nat) (na nb nc : Bool) (w : World) (k1 : (ka == 2) = false) (k2 : (kb == 2) = false) (k3 : (kc == 2) = false) (hA : A < 18446744073709551616) (hB : B < 18446744073709551616) (hC : C < 18446744073709551616) (he : IntKind.i64.wrap (ea + eb) = ea + eb)
    (hA0 : ∀ W v, Lu W v 3 (fun k => if k = 0 then x else if k = 1 then y else z) → Calls Tryd.prog 33 #[.int .i64 f, .int .i64 mode, v] W fun e w' => e = .returned (.bool true) ∧ w' = W)
    (hN0 : ∀ W v, Lu W v 3 (fun k => if k = 0 then x else if k = 1 then y else z) → Calls Tryd.prog 34 #[.int .i64 f, v] W fun e w' => e = .returned (.tuple #[.int .u64 pl, .int .i64 hl, .bool false]) ∧ Below W.heap.size W w')
    (hUa : ∀ W, Calls Tryd.prog 35 #[.int .i64 f, .int .u64 x] W fun e w' => e = .returned (.agg #[.int .i64 ka, .bool na, .int .i64 ea, .int .u64 (A : Int)]) ∧ Below W.heap.size W w')
    (hUb : ∀ W, Calls Tryd.prog 35 #[.int .i64 f, .int .u64 y] W fun e w' => e = .returned (.agg #[.int .i64 kb, .bool nb, .int .i64 eb, .int .u64 (B : Int)]) ∧ Below W.heap.size W w')
    (hUc : ∀ W, Calls Tryd.prog 35 #[.int .i64 f, .int .u64 z] W fun e w' => e = .returned (.agg #[.int .i64 kc, .bool nc, .int .i64 ec, .int .u64 (C : Int)]) ∧ Below W.heap.size W w')
    (hS : ∀ W va vb, Nt W va 5 (A * B) → Nt W vb 5 C → Calls Tryd.prog 36 #[.int .i64 f, .int .i64 mode, .bool (!(na == nb)), va, .int .i64 (ea + eb), .bool nc, vb, .int .i64 ec] W fun e w' => e = .returned (.tuple #[.int .u64 V, .int .i64 F]) ∧ Below W.heap.size W w') :
    Calls Tryd.prog 18 #[.int .i64 f, .int .i64 mode, .int .u64 x, .int .u64 y, .int .u64 z] w fun e w' => e = .returned (.tuple #[.int .u64 V, .int .i64 F]) ∧ Below w.heap.size w w' := by
  have hA1 := hA0 _ _ (lu_three x y z w w.heap.size rfl)
  have hN1 := hN0 _ _ (lu_three x y z (w.alloc (.cells #[.int .u64 x, .int .u64 y, .int .u64 z] 22)) (w.heap.size + 1) (by simp))
  have hNa := fun w => nat_any A hA w
  have hNb := fun w => nat_any B hB w
  have hNc := fun w => nat_any C hC w
  clear hA0 hN0 hA hB hC
  go_enter Tryd.func18, Tryd.ntmps18
  go_wp2_with (first | (go_at_call 33; refine hA1.mono ?_; rintro e w' ⟨rfl, hw⟩; obtain rfl := hw.symm) | (go_at_call 34; refine hN1.mono ?_; rintro e w1 ⟨rfl, hb1⟩) | (go_at_call 35; with_reducible refine (hUa _).mono ?_; rintro e w2 ⟨rfl, hb2⟩) | (go_at_call 35; with_reducible refine (hUb _).mono ?_; rintro e w3 ⟨rfl, hb3⟩) | (go_at_call 35; with_reducible refine (hUc _).mono ?_; rintro e w4 ⟨rfl, hb4⟩))
  have hc : Below w.heap.size w w4 := bstep (bstep (bstep (bstep (below_two _ _) hb1) hb2) hb3) hb4
  have hWb : Below w.heap.size w (((w4.alloc (Obj.cells #[.int .i64 ka, .bool na, .int .i64 ea, .int .u64 (A : Int)] 27)).alloc (Obj.cells #[.int .i64 kb, .bool nb, .int .i64 eb, .int .u64 (B : Int)] 27)).alloc (Obj.cells #[.int .i64 kc, .bool nc, .int .i64 ec, .int .u64 (C : Int)] 27)) := bstep hc (below_34 _ _ _)
  have fa : ∀ o v, #[Value.int .i64 ka, .bool na, .int .i64 ea, .int .u64 (A : Int)][o]? = some v → (((w4.alloc (Obj.cells #[.int .i64 ka, .bool na, .int .i64 ea, .int .u64 (A : Int)] 27)).alloc (Obj.cells #[.int .i64 kb, .bool nb, .int .i64 eb, .int .u64 (B : Int)] 27)).alloc (Obj.cells #[.int .i64 kc, .bool nc, .int .i64 ec, .int .u64 (C : Int)] 27)).cell? ⟨w4.heap.size, o, none⟩ = some v := fun o v h => by
    match o, h with
    | 0, h => simpa [go_sem] using h
    | 1, h => simpa [go_sem] using h
    | 2, h => simpa [go_sem] using h
    | 3, h => simpa [go_sem] using h
    | n + 4, h => simp at h
  have fb : ∀ o v, #[Value.int .i64 kb, .bool nb, .int .i64 eb, .int .u64 (B : Int)][o]? = some v → (((w4.alloc (Obj.cells #[.int .i64 ka, .bool na, .int .i64 ea, .int .u64 (A : Int)] 27)).alloc (Obj.cells #[.int .i64 kb, .bool nb, .int .i64 eb, .int .u64 (B : Int)] 27)).alloc (Obj.cells #[.int .i64 kc, .bool nc, .int .i64 ec, .int .u64 (C : Int)] 27)).cell? ⟨w4.heap.size + 1, o, none⟩ = some v := fun o v h => by
    match o, h with
    | 0, h => simpa [go_sem] using h
    | 1, h => simpa [go_sem] using h
    | 2, h => simpa [go_sem] using h
    | 3, h => simpa [go_sem] using h
    | n + 4, h => simp at h
  have fc : ∀ o v, #[Value.int .i64 kc, .bool nc, .int .i64 ec, .int .u64 (C : Int)][o]? = some v → (((w4.alloc (Obj.cells #[.int .i64 ka, .bool na, .int .i64 ea, .int .u64 (A : Int)] 27)).alloc (Obj.cells #[.int .i64 kb, .bool nb, .int .i64 eb, .int .u64 (B : Int)] 27)).alloc (Obj.cells #[.int .i64 kc, .bool nc, .int .i64 ec, .int .u64 (C : Int)] 27)).cell? ⟨w4.heap.size + 1 + 1, o, none⟩ = some v := fun o v h => by
    match o, h with
    | 0, h => simpa [go_sem] using h
    | 1, h => simpa [go_sem] using h
    | 2, h => simpa [go_sem] using h
    | 3, h => simpa [go_sem] using h
    | n + 4, h => simp at h
  generalize (((w4.alloc (Obj.cells #[.int .i64 ka, .bool na, .int .i64 ea, .int .u64 (A : Int)] 27)).alloc (Obj.cells #[.int .i64 kb, .bool nb, .int .i64 eb, .int .u64 (B : Int)] 27)).alloc (Obj.cells #[.int .i64 kc, .bool nc, .int .i64 ec, .int .u64 (C : Int)] 27)) = W at *
  have ra : ∀ X o v, #[Value.int .i64 ka, .bool na, .int .i64 ea, .int .u64 (A : Int)][o]? = some v → Below W.heap.size W X → X.cell? ⟨w4.heap.size, o, none⟩ = some v := fun X o v h hI => (hI.cell (p := ⟨w4.heap.size, o, none⟩) (World.block_lt_of_cell? W _ (fa o v h))).trans (fa o v h)
  have rb : ∀ X o v, #[Value.int .i64 kb, .bool nb, .int .i64 eb, .int .u64 (B : Int)][o]? = some v → Below W.heap.size W X → X.cell? ⟨w4.heap.size + 1, o, none⟩ = some v := fun X o v h hI => (hI.cell (p := ⟨w4.heap.size + 1, o, none⟩) (World.block_lt_of_cell? W _ (fb o v h))).trans (fb o v h)
  have rc : ∀ X o v, #[Value.int .i64 kc, .bool nc, .int .i64 ec, .int .u64 (C : Int)][o]? = some v → Below W.heap.size W X → X.cell? ⟨w4.heap.size + 1 + 1, o, none⟩ = some v := fun X o v h hI => (hI.cell (p := ⟨w4.heap.size + 1 + 1, o, none⟩) (World.block_lt_of_cell? W _ (fc o v h))).trans (fc o v h)
  clear hA1 hN1 hUa hUb hUc hb1 hb2 hb3 hb4 hc fa fb fc
  generalize w4.heap.size = G at *
  have l0 : Below W.heap.size W W.drew := (Below.refl _ _).drew
  refine wp_region_any (by kernel_rfl) ?_
  change wpAny _ _ _ _ _ _ _ (World.drew _)
  refine wpI_any (I := fun X => Below W.heap.size W X) _ _ _ _ ?_
  refine wpI_take (i := 0) (v := ?_) rfl (by kernel_rfl) (by kernel_rfl) (by kernel_rfl) (fun _ _ _ h => h) ⟨by rfl, ?_⟩ ?_
  rotate_left
  · intro X _; go_simp; with_reducible rfl
  refine wpI_take (i := 1) (v := ?_) rfl (by kernel_rfl) (by kernel_rfl) (by kernel_rfl) (fun _ _ _ h => h) ⟨by rfl, ?_⟩ ?_
  rotate_left
  · intro X _; go_simp; with_reducible rfl
  refine wpI_take (i := 2) (v := ?_) rfl (by kernel_rfl) (by kernel_rfl) (by kernel_rfl) (fun _ _ _ h => h) ⟨by rfl, ?_⟩ ?_
  rotate_left
  · intro X _; go_simp; with_reducible rfl
  refine wpI_take (i := 3) (v := ?_) rfl (by kernel_rfl) (by kernel_rfl) (by kernel_rfl) (fun _ _ _ h => h) ⟨by rfl, ?_⟩ ?_
  rotate_left
  · intro X _; go_simp; with_reducible rfl
  refine wpI_take (i := 6) (v := ?_) rfl (by kernel_rfl) (by kernel_rfl) (by kernel_rfl) (fun _ _ _ h => h) ⟨by rfl, ?_⟩ ?_
  rotate_left
  · intro X _; go_simp; with_reducible rfl
  refine wpI_take (i := 10) (v := ?_) rfl (by kernel_rfl) (by kernel_rfl) (by kernel_rfl) (fun _ _ _ h => h) ⟨by rfl, ?_⟩ ?_
  rotate_left
  · intro X _; go_simp; with_reducible rfl
  refine wpI_take (i := 12) (v := ?_) rfl (by kernel_rfl) (by kernel_rfl) (by kernel_rfl) (fun _ _ _ h => h) ⟨by rfl, ?_⟩ ?_
  rotate_left
  · intro X _; go_simp; with_reducible rfl
  refine wpI_take (i := 15) (v := ?_) rfl (by kernel_rfl) (by kernel_rfl) (by kernel_rfl) (fun _ _ _ h => h) ⟨by rfl, ?_⟩ ?_
  rotate_left
  · intro X _; go_simp; with_reducible rfl
  refine wpI_take (i := 17) (v := ?_) rfl (by kernel_rfl) (by kernel_rfl) (by kernel_rfl) (fun _ _ _ h => h) ⟨by rfl, ?_⟩ ?_
  rotate_left
  · intro X _; go_simp; with_reducible rfl
  refine wpI_take (i := 20) (v := ?_) rfl (by kernel_rfl) (by kernel_rfl) (by kernel_rfl) (fun _ _ _ h => h) ⟨by rfl, ?_⟩ ?_
  rotate_left
  · intro X _; go_simp; with_reducible rfl
  refine wpI_take (i := 4) (v := ?_) rfl (by kernel_rfl) (by kernel_rfl) (by kernel_rfl) (fun _ _ _ h => h) ⟨by rfl, ?_⟩ ?_
  rotate_left
  · intro X hI; have c := ra X 3 _ rfl hI; go_simp; with_reducible rfl
  refine wpI_take (i := 7) (v := ?_) rfl (by kernel_rfl) (by kernel_rfl) (by kernel_rfl) (fun _ _ _ h => h) ⟨by rfl, ?_⟩ ?_
  rotate_left
  · intro X hI; have c := rb X 3 _ rfl hI; go_simp; with_reducible rfl
  refine wpI_take (i := 11) (v := ?_) rfl (by kernel_rfl) (by kernel_rfl) (by kernel_rfl) (fun _ _ _ h => h) ⟨by rfl, ?_⟩ ?_
  rotate_left
  · intro X hI; have c := ra X 2 _ rfl hI; go_simp; with_reducible rfl
  refine wpI_take (i := 13) (v := ?_) rfl (by kernel_rfl) (by kernel_rfl) (by kernel_rfl) (fun _ _ _ h => h) ⟨by rfl, ?_⟩ ?_
  rotate_left
  · intro X hI; have c := rb X 2 _ rfl hI; go_simp; with_reducible rfl
  refine wpI_take (i := 16) (v := ?_) rfl (by kernel_rfl) (by kernel_rfl) (by kernel_rfl) (fun _ _ _ h => h) ⟨by rfl, ?_⟩ ?_
  rotate_left
  · intro X hI; have c := rc X 1 _ rfl hI; go_simp; with_reducible rfl
  refine wpI_take (i := 18) (v := ?_) rfl (by kernel_rfl) (by kernel_rfl) (by kernel_rfl) (fun _ _ _ h => h) ⟨by rfl, ?_⟩ ?_
  rotate_left
  · intro X hI; have c := rc X 3 _ rfl hI; go_simp; with_reducible rfl
  refine wpI_take (i := 21) (v := ?_) rfl (by kernel_rfl) (by kernel_rfl) (by kernel_rfl) (fun _ _ _ h => h) ⟨by rfl, ?_⟩ ?_
  rotate_left
  · intro X hI; have c := rc X 2 _ rfl hI; go_simp; with_reducible rfl
  refine wpI_take (i := 14) (v := ?_) rfl (by kernel_rfl) (by kernel_rfl) (by kernel_rfl) (fun _ _ _ h => h) ⟨by rfl, ?_⟩ ?_
  rotate_left
  · intro X _; go_simp; with_reducible rfl
  refine wpI_only (i := 5) rfl (by kernel_rfl) l0 (by rfl) ?_
  intro K hK
  go_simp
  go_wp2_with (go_at_call 29; refine (hNa _).mono ?_; rintro e x1 ⟨hb1, v1, rfl, n1⟩; have l1 := bstep l0 hb1)
  refine wpI_only (i := 8) rfl (by kernel_rfl) l1 (by rfl) ?_
  intro K hK
  go_simp
  go_wp2_with (go_at_call 29; refine (hNb _).mono ?_; rintro e x2 ⟨hb2, v2, rfl, n2⟩; have l2 := bstep l1 hb2; have n1' := n1.below hb2)
  refine wpI_only (i := 9) rfl (by kernel_rfl) l2 (by rfl) ?_
  intro K hK
  go_simp
  go_wp2_with (go_at_call 43; refine (mul_any n1' n2 (by decide)).mono ?_; rintro e x3 ⟨hb3, v3, rfl, n3⟩; have l3 := bstep l2 hb3)
  refine wpI_only (i := 19) rfl (by kernel_rfl) l3 (by rfl) ?_
  intro K hK
  go_simp
  go_wp2_with (go_at_call 29; refine (hNc _).mono ?_; rintro e x4 ⟨hb4, v4, rfl, n4⟩; have l4 := bstep l3 hb4; have n3' := n3.below hb4)
  refine wpI_only (i := 22) rfl (by kernel_rfl) l4 (by rfl) ?_
  intro K hK
  go_simp
  go_wp2_with (go_at_call 36; refine (hS _ _ _ (n3'.mono (by decide)) (n4.mono (by decide))).mono ?_; rintro e x5 ⟨rfl, hb5⟩; have l5 := bstep l4 hb5)
  refine wpI_take (i := 23) (v := ?_) rfl (by kernel_rfl) (by kernel_rfl) (by kernel_rfl) (fun _ _ _ h => h) ⟨by rfl, ?_⟩ ?_
  rotate_left
  · intro X _; go_simp; with_reducible rfl
  refine wpI_take (i := 24) (v := ?_) rfl (by kernel_rfl) (by kernel_rfl) (by kernel_rfl) (fun _ _ _ h => h) ⟨by rfl, ?_⟩ ?_
  rotate_left
  · intro X _; go_simp; with_reducible rfl
  refine wpI_take (i := 25) (v := ?_) rfl (by kernel_rfl) (by kernel_rfl) (by kernel_rfl) (fun _ _ _ h => h) ⟨by rfl, ?_⟩ ?_
  rotate_left
  · intro X _; go_simp; with_reducible rfl
  refine wpI_take (i := 26) (v := ?_) rfl (by kernel_rfl) (by kernel_rfl) (by kernel_rfl) (fun _ _ _ h => h) ⟨by rfl, ?_⟩ ?_
  rotate_left
  · intro X _; go_simp; with_reducible rfl
  refine wpI_done l5 (by kernel_rfl) ?_ _
  go_wp2
  go_ret2
  exact ⟨rfl, bstep hWb l5⟩
end Go.Proofs.YtfodpnbhcdkmnaaDoor
