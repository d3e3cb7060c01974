/- The model's Mul of two finite numbers: the walk. -/
import Derived.Test.YtcpnmcfpnhokgaaDoorHM2
import Derived.Test.YtcpnmcfpnhokgaaDoorHZ1
import Derived.RegionTactic
import Derived.Deep.RegionWith
namespace Go.Proofs.YtcpnmcfpnhokgaaDoor
open Go.RowKit

/-- What the model's Mul has laid: two numbers. -/
structure L8 (B : Nat) (ka ea ma kb eb mb : Int) (na nb : Bool) (C : Nat) (w W : World) : Prop where
  a0 : W.cell? ⟨B, 0, none⟩ = some (.int .i64 ka)
  a1 : W.cell? ⟨B, 1, none⟩ = some (.bool na)
  a2 : W.cell? ⟨B, 2, none⟩ = some (.int .i64 ea)
  a3 : W.cell? ⟨B, 3, none⟩ = some (.int .u64 ma)
  b0 : W.cell? ⟨B + 1, 0, none⟩ = some (.int .i64 kb)
  b1 : W.cell? ⟨B + 1, 1, none⟩ = some (.bool nb)
  b2 : W.cell? ⟨B + 1, 2, none⟩ = some (.int .i64 eb)
  b3 : W.cell? ⟨B + 1, 3, none⟩ = some (.int .u64 mb)
  cb : C ≤ B
  bl : Below C w W

theorem L8.step {B : Nat} {ka ea ma kb eb mb : Int} {na nb : Bool} {C : Nat} {w W V : World} (h : L8 B ka ea ma kb eb mb na nb C w W) (hb : Below W.heap.size W V) : L8 B ka ea ma kb eb mb na nb C w V := by
  have hl : B + 1 < W.heap.size := World.block_lt_of_cell? W _ h.b0
  have c : ∀ b o, b ≤ B + 1 → V.cell? ⟨b, o, none⟩ = W.cell? ⟨b, o, none⟩ := fun b o hbb => hb.cell (p := ⟨b, o, none⟩) (show b < W.heap.size by omega)
  have hcb := h.cb
  exact ⟨(c _ _ (by omega)).trans h.a0, (c _ _ (by omega)).trans h.a1, (c _ _ (by omega)).trans h.a2, (c _ _ (by omega)).trans h.a3, (c _ _ (by omega)).trans h.b0, (c _ _ (by omega)).trans h.b1, (c _ _ (by omega)).trans h.b2, (c _ _ (by omega)).trans h.b3, hcb, h.bl.trans (hb.mono (by omega))⟩

theorem l8_start {w W : World} {C : Nat} (hbl : Below C w W) (hC : C ≤ W.heap.size) (ka ea ma kb eb mb : Int) (na nb : Bool) : L8 W.heap.size ka ea ma kb eb mb na nb C w ((W.alloc (Obj.cells #[.int .i64 ka, .bool na, .int .i64 ea, .int .u64 ma] 30)).alloc (Obj.cells #[.int .i64 kb, .bool nb, .int .i64 eb, .int .u64 mb] 30)) := by
  refine ⟨?_, ?_, ?_, ?_, ?_, ?_, ?_, ?_, hC, (hbl.alloc hC _).alloc (by simp; omega) _⟩ <;> simp

set_option maxHeartbeats 40000000 in
set_option maxRecDepth 100000 in
theorem smul_fin (f mode x y ea eb V F : Int) (na nb : Bool) (A B : Nat) (w : World) (pl : Int) (hl : Int)
    (hA0 : ∀ W v, Lu W v 2 (fun k => if k = 0 then x else y) → Calls Tryd.prog 29 #[.int .i64 f, .int .i64 mode, v] W fun e w' => e = .returned (.bool true) ∧ w' = W)
    (hN0 : ∀ W v, Lu W v 2 (fun k => if k = 0 then x else y) → Calls Tryd.prog 30 #[.int .i64 f, v] W fun e w' => e = .returned (.tuple #[.int .u64 pl, .int .i64 hl, .bool false]) ∧ Below W.heap.size W w')
    (hUa : ∀ W, Calls Tryd.prog 12 #[.int .i64 f, .int .u64 x] W fun e w' => e = .returned (.agg #[.int .i64 1, .bool na, .int .i64 ea, .int .u64 (A : Int)]) ∧ Below W.heap.size W w')
    (hUb : ∀ W, Calls Tryd.prog 12 #[.int .i64 f, .int .u64 y] W fun e w' => e = .returned (.agg #[.int .i64 1, .bool nb, .int .i64 eb, .int .u64 (B : Int)]) ∧ Below W.heap.size W w')
    (hRd : ∀ W v, Nt W v 5 (A * B) → Calls Tryd.prog 45 #[.int .i64 f, .int .i64 mode, .bool (!(na == nb)), v, .int .i64 (ea + eb), .bool false] W fun e w' => e = .returned (.tuple #[.int .u64 V, .int .i64 F]) ∧ Below W.heap.size W w')
    (hA : A < 18446744073709551616) (hB : B < 18446744073709551616) (ea0 : -5000 ≤ ea) (ea1 : ea ≤ 5000) (eb0 : -5000 ≤ eb) (eb1 : eb ≤ 5000) :
    Calls Tryd.prog 18 #[.int .i64 f, .int .i64 mode, .int .u64 x, .int .u64 y] w fun e w' => e = .returned (.tuple #[.int .u64 V, .int .i64 F]) ∧ Below w.heap.size w w' := by
  have lu : ∀ (W : World) (C : Nat), W.heap.size = C → Lu (W.alloc (.cells #[.int .u64 x, .int .u64 y] 24)) (.slice (some ⟨C, 0, none⟩) 2 2) 2 (fun k => if k = 0 then x else y) := fun W C hC => by
    subst hC
    refine ⟨W.heap.size, 2, rfl, by simp, fun k hk => ?_⟩
    match k, hk with
    | 0, _ => simp
    | 1, _ => simp
  have hA1 := hA0 _ _ (lu w w.heap.size rfl)
  have hN1 := hN0 _ _ (lu (w.alloc (.cells #[.int .u64 x, .int .u64 y] 24)) (w.heap.size + 1) (by simp))
  clear hA0 hN0 lu
  go_enter Tryd.func18, Tryd.ntmps18
  go_wp2_with (first | (go_at_call 29; refine hA1.mono ?_; rintro e w' ⟨rfl, hw⟩; obtain rfl := hw.symm) | (go_at_call 30; refine hN1.mono ?_; rintro e w1 ⟨rfl, hb1⟩) | (go_at_call 12; with_reducible refine (hUa _).mono ?_; rintro e w2 ⟨rfl, hb2⟩) | (go_at_call 12; with_reducible refine (hUb _).mono ?_; rintro e w3 ⟨rfl, hb3⟩))
  generalize hW : ((w3.alloc _).alloc _) = W
  have hc : Below w.heap.size w w3 := bstep (bstep (bstep (below_two _ _) hb1) hb2) hb3
  have hl8 : L8 w3.heap.size 1 ea A 1 eb B na nb w.heap.size w W := by
    subst hW
    exact l8_start hc hc.size 1 ea A 1 eb B na nb
  clear hW hA1 hN1 hUa hUb hb1 hb2 hb3 hc
  generalize w3.heap.size = G at *
  have h1 : Calls Tryd.prog 33 #[.int .u64 (A : Int)] W.drew fun e w' => ∃ v, e = .returned v ∧ Nt w' v 2 A ∧ L8 G 1 ea A 1 eb B na nb w.heap.size w w' := by
    refine (nat_any A hA W.drew).mono ?_
    rintro e w' ⟨hb, v, rfl, hv⟩
    exact ⟨v, rfl, hv, (hl8.step (Below.refl _ _).drew).step hb⟩
  have h2 : ∀ X v1, Nt X v1 2 A → L8 G 1 ea A 1 eb B na nb w.heap.size w X → Calls Tryd.prog 33 #[.int .u64 (B : Int)] X fun e w' => ∃ v, e = .returned v ∧ Nt w' v 2 B ∧ Nt w' v1 2 A ∧ L8 G 1 ea A 1 eb B na nb w.heap.size w w' := fun X v1 hv1 hX => by
    refine (nat_any B hB X).mono ?_
    rintro e w' ⟨hb, v, rfl, hv⟩
    exact ⟨v, rfl, hv, hv1.below hb, hX.step hb⟩
  have h3 : ∀ X v1 v2, Nt X v1 2 A → Nt X v2 2 B → L8 G 1 ea A 1 eb B na nb w.heap.size w X → Calls Tryd.prog 46 #[v1, v2] X fun e w' => ∃ v, e = .returned v ∧ Nt w' v 5 (A * B) ∧ L8 G 1 ea A 1 eb B na nb w.heap.size w w' := fun X v1 v2 hv1 hv2 hX => by
    refine (mul_any hv1 hv2 (by decide)).mono ?_
    rintro e w' ⟨hb, v, rfl, hv⟩
    exact ⟨v, rfl, hv, hX.step hb⟩
  have h4 : ∀ X v, Nt X v 5 (A * B) → L8 G 1 ea A 1 eb B na nb w.heap.size w X → Calls Tryd.prog 45 #[.int .i64 f, .int .i64 mode, .bool (!(na == nb)), v, .int .i64 (ea + eb), .bool false] X fun e w' => e = .returned (.tuple #[.int .u64 V, .int .i64 F]) ∧ L8 G 1 ea A 1 eb B na nb w.heap.size w w' := fun X v hv hX => by
    refine (hRd X v hv).mono ?_
    rintro e w' ⟨rfl, hb⟩
    exact ⟨rfl, hX.step hb⟩
  have a2 := hl8.a2
  have a3 := hl8.a3
  have b2 := hl8.b2
  have b3 := hl8.b3
  have w9 := wrap_small (ea + eb) (by omega) (by omega)
  have l0 : L8 G 1 ea A 1 eb B na nb w.heap.size w W.drew := hl8.step (Below.refl _ _).drew
  clear hRd hl8
  refine wp_region_any (by kernel_rfl) ?_
  change wpAny _ _ _ _ _ _ _ (World.drew _)
  refine wpI_any (I := fun X => L8 G 1 ea A 1 eb B na nb w.heap.size w X) _ _ _ _ ?_
  refine wpI_take (i := 0) (v := ?_) rfl (by kernel_rfl) (by kernel_rfl) (by kernel_rfl) (fun _ _ _ h => h) ⟨by rfl, ?_⟩ ?_
  rotate_left
  · intro X _; go_simp; with_reducible rfl
  refine wpI_take (i := 1) (v := ?_) rfl (by kernel_rfl) (by kernel_rfl) (by kernel_rfl) (fun _ _ _ h => h) ⟨by rfl, ?_⟩ ?_
  rotate_left
  · intro X _; go_simp; with_reducible rfl
  refine wpI_take (i := 2) (v := ?_) rfl (by kernel_rfl) (by kernel_rfl) (by kernel_rfl) (fun _ _ _ h => h) ⟨by rfl, ?_⟩ ?_
  rotate_left
  · intro X _; go_simp; with_reducible rfl
  refine wpI_take (i := 3) (v := ?_) rfl (by kernel_rfl) (by kernel_rfl) (by kernel_rfl) (fun _ _ _ h => h) ⟨by rfl, ?_⟩ ?_
  rotate_left
  · intro X _; go_simp; with_reducible rfl
  refine wpI_take (i := 6) (v := ?_) rfl (by kernel_rfl) (by kernel_rfl) (by kernel_rfl) (fun _ _ _ h => h) ⟨by rfl, ?_⟩ ?_
  rotate_left
  · intro X _; go_simp; with_reducible rfl
  refine wpI_take (i := 10) (v := ?_) rfl (by kernel_rfl) (by kernel_rfl) (by kernel_rfl) (fun _ _ _ h => h) ⟨by rfl, ?_⟩ ?_
  rotate_left
  · intro X _; go_simp; with_reducible rfl
  refine wpI_take (i := 12) (v := ?_) rfl (by kernel_rfl) (by kernel_rfl) (by kernel_rfl) (fun _ _ _ h => h) ⟨by rfl, ?_⟩ ?_
  rotate_left
  · intro X _; go_simp; with_reducible rfl
  refine wpI_take (i := 4) (v := ?_) rfl (by kernel_rfl) (by kernel_rfl) (by kernel_rfl) (fun _ _ _ h => h) ⟨by rfl, ?_⟩ ?_
  rotate_left
  · intro X hI; have c := hI.a3; go_simp; with_reducible rfl
  refine wpI_take (i := 7) (v := ?_) rfl (by kernel_rfl) (by kernel_rfl) (by kernel_rfl) (fun _ _ _ h => h) ⟨by rfl, ?_⟩ ?_
  rotate_left
  · intro X hI; have c := hI.b3; go_simp; with_reducible rfl
  refine wpI_take (i := 11) (v := ?_) rfl (by kernel_rfl) (by kernel_rfl) (by kernel_rfl) (fun _ _ _ h => h) ⟨by rfl, ?_⟩ ?_
  rotate_left
  · intro X hI; have c := hI.a2; go_simp; with_reducible rfl
  refine wpI_take (i := 13) (v := ?_) rfl (by kernel_rfl) (by kernel_rfl) (by kernel_rfl) (fun _ _ _ h => h) ⟨by rfl, ?_⟩ ?_
  rotate_left
  · intro X hI; have c := hI.b2; go_simp; with_reducible rfl
  refine wpI_take (i := 14) (v := ?_) rfl (by kernel_rfl) (by kernel_rfl) (by kernel_rfl) (fun _ _ _ h => h) ⟨by rfl, ?_⟩ ?_
  rotate_left
  · intro X _; go_simp; with_reducible rfl
  refine wpI_only (i := 5) rfl (by kernel_rfl) l0 (by rfl) ?_
  intro K hK
  go_simp
  go_wp2_with (go_at_call 33; refine h1.mono ?_; rintro e x1 ⟨v1, rfl, n1, l1⟩)
  refine wpI_only (i := 8) rfl (by kernel_rfl) l1 (by rfl) ?_
  intro K hK
  go_simp
  go_wp2_with (go_at_call 33; refine (h2 _ _ n1 l1).mono ?_; rintro e x2 ⟨v2, rfl, n2, n1', l2⟩)
  refine wpI_only (i := 9) rfl (by kernel_rfl) l2 (by rfl) ?_
  intro K hK
  go_simp
  go_wp2_with (go_at_call 46; refine (h3 _ _ _ n1' n2 l2).mono ?_; rintro e x3 ⟨v3, rfl, n3, l3⟩)
  refine wpI_only (i := 15) rfl (by kernel_rfl) l3 (by rfl) ?_
  intro K hK
  go_simp
  go_wp2_with (go_at_call 45; refine (h4 _ _ n3 l3).mono ?_; rintro e x4 ⟨rfl, l4⟩)
  refine wpI_take (i := 16) (v := ?_) rfl (by kernel_rfl) (by kernel_rfl) (by kernel_rfl) (fun _ _ _ h => h) ⟨by rfl, ?_⟩ ?_
  rotate_left
  · intro X _; go_simp; with_reducible rfl
  refine wpI_take (i := 17) (v := ?_) rfl (by kernel_rfl) (by kernel_rfl) (by kernel_rfl) (fun _ _ _ h => h) ⟨by rfl, ?_⟩ ?_
  rotate_left
  · intro X _; go_simp; with_reducible rfl
  refine wpI_take (i := 18) (v := ?_) rfl (by kernel_rfl) (by kernel_rfl) (by kernel_rfl) (fun _ _ _ h => h) ⟨by rfl, ?_⟩ ?_
  rotate_left
  · intro X _; go_simp; with_reducible rfl
  refine wpI_take (i := 19) (v := ?_) rfl (by kernel_rfl) (by kernel_rfl) (by kernel_rfl) (fun _ _ _ h => h) ⟨by rfl, ?_⟩ ?_
  rotate_left
  · intro X _; go_simp; with_reducible rfl
  refine wpI_done l4 (by kernel_rfl) ?_ _
  go_wp2
  go_ret2
  exact ⟨rfl, l4.bl⟩
end Go.Proofs.YtcpnmcfpnhokgaaDoor
