/- Iir: sections and pasts handed over; what stands while the law goes on. -/
import Derived.Test.YtmjgaocmmmcnfaaIE
import Derived.Test.YtmjgaocmmmcnfaaI1
import Derived.Test.YtmjgaocmmmcnfaaMK
import Derived.Deep.Cut
namespace Go.Proofs.Ytmjgaocmmmcnfaa
open Go.RowKit

set_option maxHeartbeats 2000000 in
theorem toSec_any (s : Se) (w : World) : Calls Try.prog 6 #[s.v] w fun e w' => e = .returned s.v ∧ Below w.heap.size w w' := by
  have hb : Below w.heap.size w (s.w (s.w (w.alloc (.cells #[.int .i64 s.b0, .int .i64 s.b1, .int .i64 s.b2, .int .i64 s.a1, .int .i64 s.a2] 23)))) := bstep (bstep (below_one _ _) (below_one _ _)) (below_one _ _)
  go_enter Try.func6, Try.ntmps6
  go_wp2
  refine bodyPost_ret (v := s.v) (by simp [results, Try.results6, go_sem]) rfl ?_
  exact ⟨rfl, hb⟩

set_option maxHeartbeats 2000000 in
theorem toPas_any (p : Pa) (w : World) : Calls Try.prog 7 #[p.v] w fun e w' => e = .returned p.v ∧ Below w.heap.size w w' := by
  have hb : Below w.heap.size w (p.w (p.w (w.alloc (.cells #[.int .i64 p.x1, .int .i64 p.x2, .int .i64 p.y1, .int .i64 p.y2, .int .i64 p.e] 25)))) := bstep (bstep (below_one _ _) (below_one _ _)) (below_one _ _)
  go_enter Try.func7, Try.ntmps7
  go_wp2
  refine bodyPost_ret (v := p.v) (by simp [results, Try.results7, go_sem]) rfl ?_
  exact ⟨rfl, hb⟩

set_option maxHeartbeats 2000000 in
theorem eqPas_any (p : Pa) (w : World) : Calls Try.prog 11 #[p.v, p.v] w fun e w' => e = .returned (.bool true) ∧ Below w.heap.size w w' := by
  have b2 : Below w.heap.size w (p.w (p.w w)) := bstep (below_one _ _) (below_one _ _)
  go_enter Try.func11, Try.ntmps11
  go_wp2
  go_ret
  exact ⟨rfl, b2⟩

theorem R5.lt {W : World} {g : Nat} {x1 x2 y1 y2 e : Int} (h : R5 W g x1 x2 y1 y2 e) : g < W.heap.size := World.block_lt_of_cell? W _ h.c0

theorem R5.call {W W' : World} {g : Nat} {x1 x2 y1 y2 e : Int} (h : R5 W g x1 x2 y1 y2 e) (hb : Below W.heap.size W W') : R5 W' g x1 x2 y1 y2 e := h.block (hb.block g h.lt)

/-- Five noughts that can be written. -/
def Zf (W : World) (g : Nat) : Prop := R5 W g 0 0 0 0 0 ∧ Fz W g

theorem Zf.call {W W' : World} {g : Nat} (h : Zf W g) (hb : Below W.heap.size W W') : Zf W' g := ⟨h.1.call hb, h.2.block (hb.block g h.1.lt)⟩

theorem Zf.new (w : World) (t : TypeId) : Zf (w.alloc (.cells #[.int .i64 0, .int .i64 0, .int .i64 0, .int .i64 0, .int .i64 0] t)) w.heap.size := ⟨R5.new _ _ _ _ _ _ _, Fz.new _ _ _ _ _ _ _⟩

theorem r5_put {W : World} {g : Nat} {a b c d e : Int} (h : R5 W g a b c d e) (p q r s u : Int) : R5 (((((W.setCell ⟨g, 0, none⟩ (.int .i64 p)).setCell ⟨g, 1, none⟩ (.int .i64 q)).setCell ⟨g, 2, none⟩ (.int .i64 r)).setCell ⟨g, 3, none⟩ (.int .i64 s)).setCell ⟨g, 4, none⟩ (.int .i64 u)) g p q r s u := by
  obtain ⟨c0, c1, c2, c3, c4⟩ := h
  exact ⟨by simp [go_sem, c0], by simp [go_sem, c1], by simp [go_sem, c2], by simp [go_sem, c3], by simp [go_sem, c4]⟩

theorem kd_put5 (W : World) (g : Nat) (p q r s u : Int) : Kd (fun k => k = g) W (((((W.setCell ⟨g, 0, none⟩ (.int .i64 p)).setCell ⟨g, 1, none⟩ (.int .i64 q)).setCell ⟨g, 2, none⟩ (.int .i64 r)).setCell ⟨g, 3, none⟩ (.int .i64 s)).setCell ⟨g, 4, none⟩ (.int .i64 u)) :=
  (((((Kd.refl (fun k => k = g) W).put (.inl rfl) 0 _).put (.inl rfl) 1 _).put (.inl rfl) 2 _).put (.inl rfl) 3 _).put (.inl rfl) 4 _

/-- The past p2 in a block apart from the row u. -/
def Pb (W : World) (u : Value) (g : Nat) (p2 : Pa) : Prop := R5 W g p2.x1 p2.x2 p2.y1 p2.y2 p2.e ∧ u.ownBlock ≠ some g

/-- What stands behind the program's first answer: gv (N numbers f) and the past in block gg. -/
structure Tq (V0 V W : World) (gv : Value) (gg N : Nat) (f : Nat → Int) (p2 : Pa) : Prop where
  b0 : Below V0.heap.size V0 W
  og : W.ownsRow V.heap.size 3 1 gv N (ils f N)
  rg : R5 W gg p2.x1 p2.x2 p2.y1 p2.y2 p2.e
  sz : V.heap.size ≤ W.heap.size
  vz : V0.heap.size ≤ V.heap.size
  ge : V.heap.size ≤ gg
  ap : gv.ownBlock ≠ some gg

theorem Tq.below {V0 V W W' : World} {gv : Value} {gg N : Nat} {f : Nat → Int} {p2 : Pa} (h : Tq V0 V W gv gg N f p2) (hb : Below W.heap.size W W') : Tq V0 V W' gv gg N f p2 :=
  ⟨bstep h.b0 hb, own_below h.og hb, h.rg.call hb, Nat.le_trans h.sz hb.size, h.vz, h.ge, h.ap⟩

theorem Tq.onlyx {V0 V W W' : World} {gv : Value} {gg N g : Nat} {f : Nat → Int} {p2 : Pa} (h : Tq V0 V W gv gg N f p2) (ho : Only g W W') (h1 : V0.heap.size ≤ g) (h2 : g < V.heap.size) : Tq V0 V W' gv gg N f p2 := by
  refine ⟨Below.only h.b0 ho h1, ?_, h.rg.block (ho.block gg (by have := h.ge; omega)), Nat.le_trans h.sz ho.size, h.vz, h.ge, h.ap⟩
  refine ⟨h.og.1, ?_⟩
  rcases h.og.2 with h' | ⟨g', cap', cur, h', hb', hg, rest⟩
  · exact .inl h'
  · exact .inr ⟨g', cap', cur, h', hb', (ho.block g' (by omega)).trans hg, rest⟩

theorem Tq.onlyg {V0 V W W' : World} {gv : Value} {gg N g : Nat} {f f' : Nat → Int} {p2 : Pa} (h : Tq V0 V W gv gg N f p2) (ho : Only g W W') (h1 : V.heap.size ≤ g) (h2 : gv.ownBlock = some g ∨ W' = W) (hn : W'.ownsRow V.heap.size 3 1 gv N (ils f' N)) : Tq V0 V W' gv gg N f' p2 := by
  refine ⟨Below.only h.b0 ho (Nat.le_trans h.vz h1), hn, ?_, Nat.le_trans h.sz ho.size, h.vz, h.ge, h.ap⟩
  rcases h2 with h2 | rfl
  · exact h.rg.block (ho.block gg (fun e => h.ap (by rw [h2, e])))
  · exact h.rg

set_option maxRecDepth 20000 in
set_option maxHeartbeats 8000000 in
theorem wiir_of {w : World} {v : Value} {n : Nat} {xs : Nat → Int} {se : Se} {pa : Pa} (hv : Il w v n xs) (h1 : n ≤ 1048576) (N : Nat) (hN : N ≤ 1048576) (z : Nat → Int) (p2 : Pa) (ok : Bool)
    (hs : ∀ W u, Il W u n xs → Calls Try.prog 5 #[se.v, pa.v, u] W fun e w' => Pip W w' e N z p2 ok)
    (hi : ∀ W u, Il W u n xs → Calls Try.prog 9 #[se.v, pa.v, u] W fun e w' => Pip W w' e N z p2 ok) :
    Calls Try.prog 3 #[se.v, pa.v, v] w fun e w' => e = .returned (.bool true) ∧ Below w.heap.size w w' := by
  have HS : Hid (∀ W u, Il W u n xs → Calls Try.prog 5 #[se.v, pa.v, u] W fun e w' => Pip W w' e N z p2 ok) := hs
  have HI : Hid (∀ W u, Il W u n xs → Calls Try.prog 9 #[se.v, pa.v, u] W fun e w' => Pip W w' e N z p2 ok) := hi
  have FV : Hid (Il w v n xs) := hv
  obtain ⟨ao, cap, rfl, hcap, hc⟩ := hv
  clear hc hs hi
  have BW : Hid (Below w.heap.size w ((w.alloc (.cells #[.int .i64 se.b0, .int .i64 se.b1, .int .i64 se.b2, .int .i64 se.a1, .int .i64 se.a2] 23)).alloc (.cells #[.int .i64 pa.x1, .int .i64 pa.x2, .int .i64 pa.y1, .int .i64 pa.y2, .int .i64 pa.e] 25))) := bstep (below_one _ _) (below_one _ _)
  have RS : Hid (R5 ((w.alloc (.cells #[.int .i64 se.b0, .int .i64 se.b1, .int .i64 se.b2, .int .i64 se.a1, .int .i64 se.a2] 23)).alloc (.cells #[.int .i64 pa.x1, .int .i64 pa.x2, .int .i64 pa.y1, .int .i64 pa.y2, .int .i64 pa.e] 25)) w.heap.size se.b0 se.b1 se.b2 se.a1 se.a2) := (R5.new w _ _ _ _ _ 23).call (below_one _ _)
  have RP : Hid (R5 ((w.alloc (.cells #[.int .i64 se.b0, .int .i64 se.b1, .int .i64 se.b2, .int .i64 se.a1, .int .i64 se.a2] 23)).alloc (.cells #[.int .i64 pa.x1, .int .i64 pa.x2, .int .i64 pa.y1, .int .i64 pa.y2, .int .i64 pa.e] 25)) (w.heap.size + 1) pa.x1 pa.x2 pa.y1 pa.y2 pa.e) := by
    have := R5.new (w.alloc (.cells #[.int .i64 se.b0, .int .i64 se.b1, .int .i64 se.b2, .int .i64 se.a1, .int .i64 se.a2] 23)) pa.x1 pa.x2 pa.y1 pa.y2 pa.e 25
    rw [show (w.alloc (.cells #[.int .i64 se.b0, .int .i64 se.b1, .int .i64 se.b2, .int .i64 se.a1, .int .i64 se.a2] 23)).heap.size = w.heap.size + 1 by simp] at this
    exact this
  go_enter Try.func3, Try.ntmps3
  go_upto_region 3 with fail
  generalize ((w.alloc (.cells #[.int .i64 se.b0, .int .i64 se.b1, .int .i64 se.b2, .int .i64 se.a1, .int .i64 se.a2] 23)).alloc (.cells #[.int .i64 pa.x1, .int .i64 pa.x2, .int .i64 pa.y1, .int .i64 pa.y2, .int .i64 pa.e] 25)) = W at BW RS RP ⊢
  go_cut [7, 8, 9] from 23 (fun a b c wx => ∃ g, b = .pointer (some ⟨g, 0, none⟩) ∧ c = .bool ok ∧ Hid (Il wx a N z ∧ R5 wx g p2.x1 p2.x2 p2.y1 p2.y2 p2.e ∧ Below W.heap.size W wx))
  case first =>
    refine wp_region_any (by kernel_rfl) ?_
    change wpAny _ _ _ _ _ _ _ (World.drew _)
    refine wpI_any (I := fun X => Below W.heap.size W X) _ _ _ _ ?_
    have l0 : Below W.heap.size W W.drew := (Below.refl _ _).drew
    refine wpI_take (i := 0) (v := ?_) rfl (by kernel_rfl) (by kernel_rfl) (by kernel_rfl) (fun _ _ _ h => h) ⟨by rfl, ?_⟩ ?_
    rotate_left
    · intro X hI; obtain ⟨c0, c1, c2, c3, c4⟩ := R5.call RS.out hI; go_simp; with_reducible rfl
    refine wpI_take (i := 2) (v := ?_) rfl (by kernel_rfl) (by kernel_rfl) (by kernel_rfl) (fun _ _ _ h => h) ⟨by rfl, ?_⟩ ?_
    rotate_left
    · intro X hI; obtain ⟨c0, c1, c2, c3, c4⟩ := R5.call RP.out hI; go_simp; with_reducible rfl
    refine wpI_take (i := 4) (v := ?_) rfl (by kernel_rfl) (by kernel_rfl) (by kernel_rfl) (fun _ _ _ h => h) ⟨by rfl, ?_⟩ ?_
    rotate_left
    · intro X _; go_simp; with_reducible rfl
    refine wpI_two (i := 1) (j := 11) rfl rfl (by kernel_rfl) l0 (by rfl) (by rfl) ?_ ?_
    · intro K hK
      go_simp
      go_wp2_with (go_at_call 6; refine (toSec_any se _).mono ?_; rintro e x1 ⟨rfl, hb1⟩; have l1 := bstep l0 hb1)
      refine wpI_two (i := 3) (j := 11) rfl rfl (by kernel_rfl) l1 (by rfl) (by rfl) ?_ ?_
      · intro K hK
        go_simp
        go_wp2_with (go_at_call 7; refine (toPas_any pa _).mono ?_; rintro e x2 ⟨rfl, hb2⟩; have l2 := bstep l1 hb2)
        refine wpI_two (i := 5) (j := 11) rfl rfl (by kernel_rfl) l2 (by rfl) (by rfl) ?_ ?_
        · intro K hK
          go_simp
          go_wp2_with (go_at_call 8; refine (copy_own ((FV.out.below BW.out).below l2) h1).mono ?_; rintro e x3 ⟨hb3, a3, rfl, hf3, oa3⟩; have l3 := bstep l2 hb3)
          refine wpI_two (i := 6) (j := 11) rfl rfl (by kernel_rfl) l3 (by rfl) (by rfl) ?_ ?_
          · intro K hK
            go_simp
            go_wp2_with (go_at_call 5; refine (HS.out _ _ (il_of_own oa3)).mono ?_; rintro e x4 ⟨u4, rfl, ou4, hb4⟩; have l4 := bstep l3 hb4)
            refine wpI_take (i := 7) (v := ?_) rfl (by kernel_rfl) (by kernel_rfl) (by kernel_rfl) (fun _ _ _ h => h) ⟨by rfl, ?_⟩ ?_
            rotate_left
            · intro X _; go_simp; with_reducible rfl
            refine wpI_take (i := 8) (v := ?_) rfl (by kernel_rfl) (by kernel_rfl) (by kernel_rfl) (fun _ _ _ h => h) ⟨by rfl, ?_⟩ ?_
            rotate_left
            · intro X _; go_simp; with_reducible rfl
            refine wpI_take (i := 9) (v := ?_) rfl (by kernel_rfl) (by kernel_rfl) (by kernel_rfl) (fun _ _ _ h => h) ⟨by rfl, ?_⟩ ?_
            rotate_left
            · intro X _; go_simp; with_reducible rfl
            refine wpI_take (i := 10) (v := ?_) rfl (by kernel_rfl) (by kernel_rfl) (by kernel_rfl) (fun _ _ _ h => h) ⟨by rfl, ?_⟩ ?_
            rotate_left
            · intro X _; go_simp; with_reducible rfl
            refine wpI_only (i := 11) rfl (by kernel_rfl) l4 (by rfl) ?_
            intro K hK
            have n5 : Zf (x4.alloc (.cells #[.int .i64 0, .int .i64 0, .int .i64 0, .int .i64 0, .int .i64 0] 27)) x4.heap.size := Zf.new _ _
            have gl5 : W.heap.size ≤ x4.heap.size := l4.size
            have l5 := l4.alloc l4.size (.cells #[.int .i64 0, .int .i64 0, .int .i64 0, .int .i64 0, .int .i64 0] 27)
            have u_5 := own_below ou4 (below_one x4 (.cells #[.int .i64 0, .int .i64 0, .int .i64 0, .int .i64 0, .int .i64 0] 27))
            go_simp
            refine hK _ _ ?_
            clear hK K
            refine wpI_only (i := 12) rfl (by kernel_rfl) l5 (by rfl) ?_
            intro K hK
            go_simp
            refine hK _ _ ?_
            clear hK K
            refine wpI_only (i := 13) rfl (by kernel_rfl) l5 (by rfl) ?_
            intro K hK
            have m6 : R5 (x4.alloc (.cells #[.int .i64 p2.x1, .int .i64 p2.x2, .int .i64 p2.y1, .int .i64 p2.y2, .int .i64 p2.e] 27)) x4.heap.size p2.x1 p2.x2 p2.y1 p2.y2 p2.e := R5.new _ _ _ _ _ _ _
            have l6 := l4.alloc l4.size (.cells #[.int .i64 p2.x1, .int .i64 p2.x2, .int .i64 p2.y1, .int .i64 p2.y2, .int .i64 p2.e] 27)
            have u_6 := own_below ou4 (below_one x4 (.cells #[.int .i64 p2.x1, .int .i64 p2.x2, .int .i64 p2.y1, .int .i64 p2.y2, .int .i64 p2.e] 27))
            obtain ⟨⟨c0, c1, c2, c3, c4⟩, ⟨z0, z1, z2, z3, z4⟩⟩ := n5
            go_simp
            refine hK _ _ ?_
            clear hK K
            refine wpI_only (i := 14) rfl (by kernel_rfl) l6 (by rfl) ?_
            intro K hK
            go_simp
            refine hK _ _ ?_
            clear hK K
            refine wpI_done l6 (by kernel_rfl) ?_ _
            go_wp2
            go_meet
            exact ⟨_, rfl, rfl, il_of_own u_6, m6, l6⟩
          · intro K hK
            have n7 : Zf (x3.alloc (.cells #[.int .i64 0, .int .i64 0, .int .i64 0, .int .i64 0, .int .i64 0] 27)) x3.heap.size := Zf.new _ _
            have gl7 : W.heap.size ≤ x3.heap.size := l3.size
            have l7 := l3.alloc l3.size (.cells #[.int .i64 0, .int .i64 0, .int .i64 0, .int .i64 0, .int .i64 0] 27)
            have a_7 := own_below oa3 (below_one x3 (.cells #[.int .i64 0, .int .i64 0, .int .i64 0, .int .i64 0, .int .i64 0] 27))
            go_simp
            refine hK _ _ ?_
            clear hK K
            refine wpI_only (i := 6) rfl (by kernel_rfl) l7 (by rfl) ?_
            intro K hK
            go_simp
            go_wp2_with (go_at_call 5; refine (HS.out _ _ (il_of_own a_7)).mono ?_; rintro e x8 ⟨u8, rfl, ou8, hb8⟩; have l8 := bstep l7 hb8; have n8 := Zf.call n7 hb8)
            refine wpI_take (i := 7) (v := ?_) rfl (by kernel_rfl) (by kernel_rfl) (by kernel_rfl) (fun _ _ _ h => h) ⟨by rfl, ?_⟩ ?_
            rotate_left
            · intro X _; go_simp; with_reducible rfl
            refine wpI_take (i := 8) (v := ?_) rfl (by kernel_rfl) (by kernel_rfl) (by kernel_rfl) (fun _ _ _ h => h) ⟨by rfl, ?_⟩ ?_
            rotate_left
            · intro X _; go_simp; with_reducible rfl
            refine wpI_take (i := 9) (v := ?_) rfl (by kernel_rfl) (by kernel_rfl) (by kernel_rfl) (fun _ _ _ h => h) ⟨by rfl, ?_⟩ ?_
            rotate_left
            · intro X _; go_simp; with_reducible rfl
            refine wpI_take (i := 10) (v := ?_) rfl (by kernel_rfl) (by kernel_rfl) (by kernel_rfl) (fun _ _ _ h => h) ⟨by rfl, ?_⟩ ?_
            rotate_left
            · intro X _; go_simp; with_reducible rfl
            refine wpI_only (i := 12) rfl (by kernel_rfl) l8 (by rfl) ?_
            intro K hK
            go_simp
            refine hK _ _ ?_
            clear hK K
            refine wpI_only (i := 13) rfl (by kernel_rfl) l8 (by rfl) ?_
            intro K hK
            have m9 : R5 (((((x8.setCell ⟨x3.heap.size, 0, none⟩ (.int .i64 p2.x1)).setCell ⟨x3.heap.size, 1, none⟩ (.int .i64 p2.x2)).setCell ⟨x3.heap.size, 2, none⟩ (.int .i64 p2.y1)).setCell ⟨x3.heap.size, 3, none⟩ (.int .i64 p2.y2)).setCell ⟨x3.heap.size, 4, none⟩ (.int .i64 p2.e)) x3.heap.size p2.x1 p2.x2 p2.y1 p2.y2 p2.e := r5_put n8.1 _ _ _ _ _
            have k9 : Kd (fun q => q = x3.heap.size) x8 (((((x8.setCell ⟨x3.heap.size, 0, none⟩ (.int .i64 p2.x1)).setCell ⟨x3.heap.size, 1, none⟩ (.int .i64 p2.x2)).setCell ⟨x3.heap.size, 2, none⟩ (.int .i64 p2.y1)).setCell ⟨x3.heap.size, 3, none⟩ (.int .i64 p2.y2)).setCell ⟨x3.heap.size, 4, none⟩ (.int .i64 p2.e)) := kd_put5 _ _ _ _ _ _ _
            have l9 : Below W.heap.size W (((((x8.setCell ⟨x3.heap.size, 0, none⟩ (.int .i64 p2.x1)).setCell ⟨x3.heap.size, 1, none⟩ (.int .i64 p2.x2)).setCell ⟨x3.heap.size, 2, none⟩ (.int .i64 p2.y1)).setCell ⟨x3.heap.size, 3, none⟩ (.int .i64 p2.y2)).setCell ⟨x3.heap.size, 4, none⟩ (.int .i64 p2.e)) := Kd.below l8 k9 l8.size (by rintro q rfl; exact gl7)
            have u_9 := own_kd ou8 k9 (fun q hq hd => by have := (World.ownsRow.lt ou8 q hq).1; have := n7.1.lt; omega)
            obtain ⟨⟨c0, c1, c2, c3, c4⟩, ⟨z0, z1, z2, z3, z4⟩⟩ := n8
            go_simp
            refine hK _ _ ?_
            clear hK K
            refine wpI_only (i := 14) rfl (by kernel_rfl) l9 (by rfl) ?_
            intro K hK
            go_simp
            refine hK _ _ ?_
            clear hK K
            refine wpI_done l9 (by kernel_rfl) ?_ _
            go_wp2
            go_meet
            exact ⟨_, rfl, rfl, il_of_own u_9, m9, l9⟩
        · intro K hK
          have n10 : Zf (x2.alloc (.cells #[.int .i64 0, .int .i64 0, .int .i64 0, .int .i64 0, .int .i64 0] 27)) x2.heap.size := Zf.new _ _
          have gl10 : W.heap.size ≤ x2.heap.size := l2.size
          have l10 := l2.alloc l2.size (.cells #[.int .i64 0, .int .i64 0, .int .i64 0, .int .i64 0, .int .i64 0] 27)
          go_simp
          refine hK _ _ ?_
          clear hK K
          refine wpI_only (i := 5) rfl (by kernel_rfl) l10 (by rfl) ?_
          intro K hK
          go_simp
          go_wp2_with (go_at_call 8; refine (copy_own ((FV.out.below BW.out).below l10) h1).mono ?_; rintro e x11 ⟨hb11, a11, rfl, hf11, oa11⟩; have l11 := bstep l10 hb11; have n11 := Zf.call n10 hb11)
          refine wpI_only (i := 6) rfl (by kernel_rfl) l11 (by rfl) ?_
          intro K hK
          go_simp
          go_wp2_with (go_at_call 5; refine (HS.out _ _ (il_of_own oa11)).mono ?_; rintro e x12 ⟨u12, rfl, ou12, hb12⟩; have l12 := bstep l11 hb12; have n12 := Zf.call n11 hb12)
          refine wpI_take (i := 7) (v := ?_) rfl (by kernel_rfl) (by kernel_rfl) (by kernel_rfl) (fun _ _ _ h => h) ⟨by rfl, ?_⟩ ?_
          rotate_left
          · intro X _; go_simp; with_reducible rfl
          refine wpI_take (i := 8) (v := ?_) rfl (by kernel_rfl) (by kernel_rfl) (by kernel_rfl) (fun _ _ _ h => h) ⟨by rfl, ?_⟩ ?_
          rotate_left
          · intro X _; go_simp; with_reducible rfl
          refine wpI_take (i := 9) (v := ?_) rfl (by kernel_rfl) (by kernel_rfl) (by kernel_rfl) (fun _ _ _ h => h) ⟨by rfl, ?_⟩ ?_
          rotate_left
          · intro X _; go_simp; with_reducible rfl
          refine wpI_take (i := 10) (v := ?_) rfl (by kernel_rfl) (by kernel_rfl) (by kernel_rfl) (fun _ _ _ h => h) ⟨by rfl, ?_⟩ ?_
          rotate_left
          · intro X _; go_simp; with_reducible rfl
          refine wpI_only (i := 12) rfl (by kernel_rfl) l12 (by rfl) ?_
          intro K hK
          go_simp
          refine hK _ _ ?_
          clear hK K
          refine wpI_only (i := 13) rfl (by kernel_rfl) l12 (by rfl) ?_
          intro K hK
          have m13 : R5 (((((x12.setCell ⟨x2.heap.size, 0, none⟩ (.int .i64 p2.x1)).setCell ⟨x2.heap.size, 1, none⟩ (.int .i64 p2.x2)).setCell ⟨x2.heap.size, 2, none⟩ (.int .i64 p2.y1)).setCell ⟨x2.heap.size, 3, none⟩ (.int .i64 p2.y2)).setCell ⟨x2.heap.size, 4, none⟩ (.int .i64 p2.e)) x2.heap.size p2.x1 p2.x2 p2.y1 p2.y2 p2.e := r5_put n12.1 _ _ _ _ _
          have k13 : Kd (fun q => q = x2.heap.size) x12 (((((x12.setCell ⟨x2.heap.size, 0, none⟩ (.int .i64 p2.x1)).setCell ⟨x2.heap.size, 1, none⟩ (.int .i64 p2.x2)).setCell ⟨x2.heap.size, 2, none⟩ (.int .i64 p2.y1)).setCell ⟨x2.heap.size, 3, none⟩ (.int .i64 p2.y2)).setCell ⟨x2.heap.size, 4, none⟩ (.int .i64 p2.e)) := kd_put5 _ _ _ _ _ _ _
          have l13 : Below W.heap.size W (((((x12.setCell ⟨x2.heap.size, 0, none⟩ (.int .i64 p2.x1)).setCell ⟨x2.heap.size, 1, none⟩ (.int .i64 p2.x2)).setCell ⟨x2.heap.size, 2, none⟩ (.int .i64 p2.y1)).setCell ⟨x2.heap.size, 3, none⟩ (.int .i64 p2.y2)).setCell ⟨x2.heap.size, 4, none⟩ (.int .i64 p2.e)) := Kd.below l12 k13 l12.size (by rintro q rfl; exact gl10)
          have u_13 := own_kd ou12 k13 (fun q hq hd => by have := (World.ownsRow.lt ou12 q hq).1; have := n11.1.lt; omega)
          obtain ⟨⟨c0, c1, c2, c3, c4⟩, ⟨z0, z1, z2, z3, z4⟩⟩ := n12
          go_simp
          refine hK _ _ ?_
          clear hK K
          refine wpI_only (i := 14) rfl (by kernel_rfl) l13 (by rfl) ?_
          intro K hK
          go_simp
          refine hK _ _ ?_
          clear hK K
          refine wpI_done l13 (by kernel_rfl) ?_ _
          go_wp2
          go_meet
          exact ⟨_, rfl, rfl, il_of_own u_13, m13, l13⟩
      · intro K hK
        have n14 : Zf (x1.alloc (.cells #[.int .i64 0, .int .i64 0, .int .i64 0, .int .i64 0, .int .i64 0] 27)) x1.heap.size := Zf.new _ _
        have gl14 : W.heap.size ≤ x1.heap.size := l1.size
        have l14 := l1.alloc l1.size (.cells #[.int .i64 0, .int .i64 0, .int .i64 0, .int .i64 0, .int .i64 0] 27)
        go_simp
        refine hK _ _ ?_
        clear hK K
        refine wpI_only (i := 3) rfl (by kernel_rfl) l14 (by rfl) ?_
        intro K hK
        go_simp
        go_wp2_with (go_at_call 7; refine (toPas_any pa _).mono ?_; rintro e x15 ⟨rfl, hb15⟩; have l15 := bstep l14 hb15; have n15 := Zf.call n14 hb15)
        refine wpI_only (i := 5) rfl (by kernel_rfl) l15 (by rfl) ?_
        intro K hK
        go_simp
        go_wp2_with (go_at_call 8; refine (copy_own ((FV.out.below BW.out).below l15) h1).mono ?_; rintro e x16 ⟨hb16, a16, rfl, hf16, oa16⟩; have l16 := bstep l15 hb16; have n16 := Zf.call n15 hb16)
        refine wpI_only (i := 6) rfl (by kernel_rfl) l16 (by rfl) ?_
        intro K hK
        go_simp
        go_wp2_with (go_at_call 5; refine (HS.out _ _ (il_of_own oa16)).mono ?_; rintro e x17 ⟨u17, rfl, ou17, hb17⟩; have l17 := bstep l16 hb17; have n17 := Zf.call n16 hb17)
        refine wpI_take (i := 7) (v := ?_) rfl (by kernel_rfl) (by kernel_rfl) (by kernel_rfl) (fun _ _ _ h => h) ⟨by rfl, ?_⟩ ?_
        rotate_left
        · intro X _; go_simp; with_reducible rfl
        refine wpI_take (i := 8) (v := ?_) rfl (by kernel_rfl) (by kernel_rfl) (by kernel_rfl) (fun _ _ _ h => h) ⟨by rfl, ?_⟩ ?_
        rotate_left
        · intro X _; go_simp; with_reducible rfl
        refine wpI_take (i := 9) (v := ?_) rfl (by kernel_rfl) (by kernel_rfl) (by kernel_rfl) (fun _ _ _ h => h) ⟨by rfl, ?_⟩ ?_
        rotate_left
        · intro X _; go_simp; with_reducible rfl
        refine wpI_take (i := 10) (v := ?_) rfl (by kernel_rfl) (by kernel_rfl) (by kernel_rfl) (fun _ _ _ h => h) ⟨by rfl, ?_⟩ ?_
        rotate_left
        · intro X _; go_simp; with_reducible rfl
        refine wpI_only (i := 12) rfl (by kernel_rfl) l17 (by rfl) ?_
        intro K hK
        go_simp
        refine hK _ _ ?_
        clear hK K
        refine wpI_only (i := 13) rfl (by kernel_rfl) l17 (by rfl) ?_
        intro K hK
        have m18 : R5 (((((x17.setCell ⟨x1.heap.size, 0, none⟩ (.int .i64 p2.x1)).setCell ⟨x1.heap.size, 1, none⟩ (.int .i64 p2.x2)).setCell ⟨x1.heap.size, 2, none⟩ (.int .i64 p2.y1)).setCell ⟨x1.heap.size, 3, none⟩ (.int .i64 p2.y2)).setCell ⟨x1.heap.size, 4, none⟩ (.int .i64 p2.e)) x1.heap.size p2.x1 p2.x2 p2.y1 p2.y2 p2.e := r5_put n17.1 _ _ _ _ _
        have k18 : Kd (fun q => q = x1.heap.size) x17 (((((x17.setCell ⟨x1.heap.size, 0, none⟩ (.int .i64 p2.x1)).setCell ⟨x1.heap.size, 1, none⟩ (.int .i64 p2.x2)).setCell ⟨x1.heap.size, 2, none⟩ (.int .i64 p2.y1)).setCell ⟨x1.heap.size, 3, none⟩ (.int .i64 p2.y2)).setCell ⟨x1.heap.size, 4, none⟩ (.int .i64 p2.e)) := kd_put5 _ _ _ _ _ _ _
        have l18 : Below W.heap.size W (((((x17.setCell ⟨x1.heap.size, 0, none⟩ (.int .i64 p2.x1)).setCell ⟨x1.heap.size, 1, none⟩ (.int .i64 p2.x2)).setCell ⟨x1.heap.size, 2, none⟩ (.int .i64 p2.y1)).setCell ⟨x1.heap.size, 3, none⟩ (.int .i64 p2.y2)).setCell ⟨x1.heap.size, 4, none⟩ (.int .i64 p2.e)) := Kd.below l17 k18 l17.size (by rintro q rfl; exact gl14)
        have u_18 := own_kd ou17 k18 (fun q hq hd => by have := (World.ownsRow.lt ou17 q hq).1; have := n16.1.lt; omega)
        obtain ⟨⟨c0, c1, c2, c3, c4⟩, ⟨z0, z1, z2, z3, z4⟩⟩ := n17
        go_simp
        refine hK _ _ ?_
        clear hK K
        refine wpI_only (i := 14) rfl (by kernel_rfl) l18 (by rfl) ?_
        intro K hK
        go_simp
        refine hK _ _ ?_
        clear hK K
        refine wpI_done l18 (by kernel_rfl) ?_ _
        go_wp2
        go_meet
        exact ⟨_, rfl, rfl, il_of_own u_18, m18, l18⟩
    · intro K hK
      have n19 : Zf (W.drew.alloc (.cells #[.int .i64 0, .int .i64 0, .int .i64 0, .int .i64 0, .int .i64 0] 27)) W.heap.size := Zf.new _ _
      have gl19 : W.heap.size ≤ W.heap.size := l0.size
      have l19 := l0.alloc l0.size (.cells #[.int .i64 0, .int .i64 0, .int .i64 0, .int .i64 0, .int .i64 0] 27)
      go_simp
      refine hK _ _ ?_
      clear hK K
      refine wpI_only (i := 1) rfl (by kernel_rfl) l19 (by rfl) ?_
      intro K hK
      go_simp
      go_wp2_with (go_at_call 6; refine (toSec_any se _).mono ?_; rintro e x20 ⟨rfl, hb20⟩; have l20 := bstep l19 hb20; have n20 := Zf.call n19 hb20)
      refine wpI_only (i := 3) rfl (by kernel_rfl) l20 (by rfl) ?_
      intro K hK
      go_simp
      go_wp2_with (go_at_call 7; refine (toPas_any pa _).mono ?_; rintro e x21 ⟨rfl, hb21⟩; have l21 := bstep l20 hb21; have n21 := Zf.call n20 hb21)
      refine wpI_only (i := 5) rfl (by kernel_rfl) l21 (by rfl) ?_
      intro K hK
      go_simp
      go_wp2_with (go_at_call 8; refine (copy_own ((FV.out.below BW.out).below l21) h1).mono ?_; rintro e x22 ⟨hb22, a22, rfl, hf22, oa22⟩; have l22 := bstep l21 hb22; have n22 := Zf.call n21 hb22)
      refine wpI_only (i := 6) rfl (by kernel_rfl) l22 (by rfl) ?_
      intro K hK
      go_simp
      go_wp2_with (go_at_call 5; refine (HS.out _ _ (il_of_own oa22)).mono ?_; rintro e x23 ⟨u23, rfl, ou23, hb23⟩; have l23 := bstep l22 hb23; have n23 := Zf.call n22 hb23)
      refine wpI_take (i := 7) (v := ?_) rfl (by kernel_rfl) (by kernel_rfl) (by kernel_rfl) (fun _ _ _ h => h) ⟨by rfl, ?_⟩ ?_
      rotate_left
      · intro X _; go_simp; with_reducible rfl
      refine wpI_take (i := 8) (v := ?_) rfl (by kernel_rfl) (by kernel_rfl) (by kernel_rfl) (fun _ _ _ h => h) ⟨by rfl, ?_⟩ ?_
      rotate_left
      · intro X _; go_simp; with_reducible rfl
      refine wpI_take (i := 9) (v := ?_) rfl (by kernel_rfl) (by kernel_rfl) (by kernel_rfl) (fun _ _ _ h => h) ⟨by rfl, ?_⟩ ?_
      rotate_left
      · intro X _; go_simp; with_reducible rfl
      refine wpI_take (i := 10) (v := ?_) rfl (by kernel_rfl) (by kernel_rfl) (by kernel_rfl) (fun _ _ _ h => h) ⟨by rfl, ?_⟩ ?_
      rotate_left
      · intro X _; go_simp; with_reducible rfl
      refine wpI_only (i := 12) rfl (by kernel_rfl) l23 (by rfl) ?_
      intro K hK
      go_simp
      refine hK _ _ ?_
      clear hK K
      refine wpI_only (i := 13) rfl (by kernel_rfl) l23 (by rfl) ?_
      intro K hK
      have m24 : R5 (((((x23.setCell ⟨W.heap.size, 0, none⟩ (.int .i64 p2.x1)).setCell ⟨W.heap.size, 1, none⟩ (.int .i64 p2.x2)).setCell ⟨W.heap.size, 2, none⟩ (.int .i64 p2.y1)).setCell ⟨W.heap.size, 3, none⟩ (.int .i64 p2.y2)).setCell ⟨W.heap.size, 4, none⟩ (.int .i64 p2.e)) W.heap.size p2.x1 p2.x2 p2.y1 p2.y2 p2.e := r5_put n23.1 _ _ _ _ _
      have k24 : Kd (fun q => q = W.heap.size) x23 (((((x23.setCell ⟨W.heap.size, 0, none⟩ (.int .i64 p2.x1)).setCell ⟨W.heap.size, 1, none⟩ (.int .i64 p2.x2)).setCell ⟨W.heap.size, 2, none⟩ (.int .i64 p2.y1)).setCell ⟨W.heap.size, 3, none⟩ (.int .i64 p2.y2)).setCell ⟨W.heap.size, 4, none⟩ (.int .i64 p2.e)) := kd_put5 _ _ _ _ _ _ _
      have l24 : Below W.heap.size W (((((x23.setCell ⟨W.heap.size, 0, none⟩ (.int .i64 p2.x1)).setCell ⟨W.heap.size, 1, none⟩ (.int .i64 p2.x2)).setCell ⟨W.heap.size, 2, none⟩ (.int .i64 p2.y1)).setCell ⟨W.heap.size, 3, none⟩ (.int .i64 p2.y2)).setCell ⟨W.heap.size, 4, none⟩ (.int .i64 p2.e)) := Kd.below l23 k24 l23.size (by rintro q rfl; exact gl19)
      have u_24 := own_kd ou23 k24 (fun q hq hd => by have := (World.ownsRow.lt ou23 q hq).1; have := n22.1.lt; omega)
      obtain ⟨⟨c0, c1, c2, c3, c4⟩, ⟨z0, z1, z2, z3, z4⟩⟩ := n23
      go_simp
      refine hK _ _ ?_
      clear hK K
      refine wpI_only (i := 14) rfl (by kernel_rfl) l24 (by rfl) ?_
      intro K hK
      go_simp
      refine hK _ _ ?_
      clear hK K
      refine wpI_done l24 (by kernel_rfl) ?_ _
      go_wp2
      go_meet
      exact ⟨_, rfl, rfl, il_of_own u_24, m24, l24⟩
  case rest =>
    obtain ⟨g1, rfl, rfl, hq⟩ := hcut
    have FW : Hid (Il wc u7 N z) := hq.out.1
    have R1 : Hid (R5 wc g1 p2.x1 p2.x2 p2.y1 p2.y2 p2.e) := hq.out.2.1
    have BC : Hid (Below w.heap.size w wc) := BW.out.trans (hq.out.2.2.mono BW.out.size)
    have RSc : Hid (R5 wc w.heap.size se.b0 se.b1 se.b2 se.a1 se.a2) := RS.out.call hq.out.2.2
    have RPc : Hid (R5 wc (w.heap.size + 1) pa.x1 pa.x2 pa.y1 pa.y2 pa.e) := RP.out.call hq.out.2.2
    clear hq RS RP BW
    rename World => V0
    go_upto_region 5 with (go_at_call 8; refine (copy_own (FV.out.below BC.out) h1).mono ?_; rintro e V ⟨hb, xv, rfl, hf, ho⟩; have OX : Hid (V.ownsRow V0.heap.size 3 1 xv n (ils xs n)) := ho; have BV : Hid (Below V0.heap.size V0 V) := hb; clear hb hf ho)
    have RSV : Hid (R5 V w.heap.size se.b0 se.b1 se.b2 se.a1 se.a2) := RSc.out.call BV.out
    have RPV : Hid (R5 V (w.heap.size + 1) pa.x1 pa.x2 pa.y1 pa.y2 pa.e) := RPc.out.call BV.out
    go_cut [11, 12, 13] from 36 (fun a b c wx => ∃ g, b = .pointer (some ⟨g, 0, none⟩) ∧ c = .bool ok ∧ Hid (Tq V0 V wx a g N z p2 ∧ Below V.heap.size V wx))
    case first =>
      refine wp_region_any (by kernel_rfl) ?_
      change wpAny _ _ _ _ _ _ _ (World.drew _)
      refine wpI_any (I := fun X => Below V.heap.size V X) _ _ _ _ ?_
      have l0 : Below V.heap.size V V.drew := (Below.refl _ _).drew
      refine wpI_take (i := 0) (v := ?_) rfl (by kernel_rfl) (by kernel_rfl) (by kernel_rfl) (fun _ _ _ h => h) ⟨by rfl, ?_⟩ ?_
      rotate_left
      · intro X hI; obtain ⟨c0, c1, c2, c3, c4⟩ := R5.call RSV.out hI; go_simp; with_reducible rfl
      refine wpI_take (i := 2) (v := ?_) rfl (by kernel_rfl) (by kernel_rfl) (by kernel_rfl) (fun _ _ _ h => h) ⟨by rfl, ?_⟩ ?_
      rotate_left
      · intro X hI; obtain ⟨c0, c1, c2, c3, c4⟩ := R5.call RPV.out hI; go_simp; with_reducible rfl
      refine wpI_take (i := 4) (v := ?_) rfl (by kernel_rfl) (by kernel_rfl) (by kernel_rfl) (fun _ _ _ h => h) ⟨by rfl, ?_⟩ ?_
      rotate_left
      · intro X _; go_simp; with_reducible rfl
      refine wpI_two (i := 1) (j := 10) rfl rfl (by kernel_rfl) l0 (by rfl) (by rfl) ?_ ?_
      · intro K hK
        go_simp
        go_wp2_with (go_at_call 6; refine (toSec_any se _).mono ?_; rintro e x1 ⟨rfl, hb1⟩; have l1 := bstep l0 hb1)
        refine wpI_two (i := 3) (j := 10) rfl rfl (by kernel_rfl) l1 (by rfl) (by rfl) ?_ ?_
        · intro K hK
          go_simp
          go_wp2_with (go_at_call 7; refine (toPas_any pa _).mono ?_; rintro e x2 ⟨rfl, hb2⟩; have l2 := bstep l1 hb2)
          refine wpI_two (i := 5) (j := 10) rfl rfl (by kernel_rfl) l2 (by rfl) (by rfl) ?_ ?_
          · intro K hK
            go_simp
            go_wp2_with (go_at_call 9; refine (HI.out _ _ ((il_of_own OX.out).below l2)).mono ?_; rintro e x3 ⟨u3, rfl, ou3, hb3⟩; have l3 := bstep l2 hb3)
            refine wpI_take (i := 6) (v := ?_) rfl (by kernel_rfl) (by kernel_rfl) (by kernel_rfl) (fun _ _ _ h => h) ⟨by rfl, ?_⟩ ?_
            rotate_left
            · intro X _; go_simp; with_reducible rfl
            refine wpI_take (i := 7) (v := ?_) rfl (by kernel_rfl) (by kernel_rfl) (by kernel_rfl) (fun _ _ _ h => h) ⟨by rfl, ?_⟩ ?_
            rotate_left
            · intro X _; go_simp; with_reducible rfl
            refine wpI_take (i := 8) (v := ?_) rfl (by kernel_rfl) (by kernel_rfl) (by kernel_rfl) (fun _ _ _ h => h) ⟨by rfl, ?_⟩ ?_
            rotate_left
            · intro X _; go_simp; with_reducible rfl
            refine wpI_take (i := 9) (v := ?_) rfl (by kernel_rfl) (by kernel_rfl) (by kernel_rfl) (fun _ _ _ h => h) ⟨by rfl, ?_⟩ ?_
            rotate_left
            · intro X _; go_simp; with_reducible rfl
            refine wpI_only (i := 10) rfl (by kernel_rfl) l3 (by rfl) ?_
            intro K hK
            have n4 : Zf (x3.alloc (.cells #[.int .i64 0, .int .i64 0, .int .i64 0, .int .i64 0, .int .i64 0] 27)) x3.heap.size := Zf.new _ _
            have gl4 : V.heap.size ≤ x3.heap.size := l3.size
            have l4 := l3.alloc l3.size (.cells #[.int .i64 0, .int .i64 0, .int .i64 0, .int .i64 0, .int .i64 0] 27)
            have u_4 := own_below ou3 (below_one x3 (.cells #[.int .i64 0, .int .i64 0, .int .i64 0, .int .i64 0, .int .i64 0] 27))
            go_simp
            refine hK _ _ ?_
            clear hK K
            refine wpI_only (i := 11) rfl (by kernel_rfl) l4 (by rfl) ?_
            intro K hK
            go_simp
            refine hK _ _ ?_
            clear hK K
            refine wpI_only (i := 12) rfl (by kernel_rfl) l4 (by rfl) ?_
            intro K hK
            have m5 : R5 (x3.alloc (.cells #[.int .i64 p2.x1, .int .i64 p2.x2, .int .i64 p2.y1, .int .i64 p2.y2, .int .i64 p2.e] 27)) x3.heap.size p2.x1 p2.x2 p2.y1 p2.y2 p2.e := R5.new _ _ _ _ _ _ _
            have l5 := l3.alloc l3.size (.cells #[.int .i64 p2.x1, .int .i64 p2.x2, .int .i64 p2.y1, .int .i64 p2.y2, .int .i64 p2.e] 27)
            have u_5 := own_below ou3 (below_one x3 (.cells #[.int .i64 p2.x1, .int .i64 p2.x2, .int .i64 p2.y1, .int .i64 p2.y2, .int .i64 p2.e] 27))
            obtain ⟨⟨c0, c1, c2, c3, c4⟩, ⟨z0, z1, z2, z3, z4⟩⟩ := n4
            go_simp
            refine hK _ _ ?_
            clear hK K
            refine wpI_only (i := 13) rfl (by kernel_rfl) l5 (by rfl) ?_
            intro K hK
            go_simp
            refine hK _ _ ?_
            clear hK K
            refine wpI_done l5 (by kernel_rfl) ?_ _
            go_wp2
            go_meet
            exact ⟨_, rfl, rfl, ⟨BV.out.trans (l5.mono BV.out.size), own_base u_5 l2.size, m5, l5.size, BV.out.size, gl4, fun e => by have := (World.ownsRow.lt ou3 _ e).2; omega⟩, l5⟩
          · intro K hK
            have n6 : Zf (x2.alloc (.cells #[.int .i64 0, .int .i64 0, .int .i64 0, .int .i64 0, .int .i64 0] 27)) x2.heap.size := Zf.new _ _
            have gl6 : V.heap.size ≤ x2.heap.size := l2.size
            have l6 := l2.alloc l2.size (.cells #[.int .i64 0, .int .i64 0, .int .i64 0, .int .i64 0, .int .i64 0] 27)
            go_simp
            refine hK _ _ ?_
            clear hK K
            refine wpI_only (i := 5) rfl (by kernel_rfl) l6 (by rfl) ?_
            intro K hK
            go_simp
            go_wp2_with (go_at_call 9; refine (HI.out _ _ ((il_of_own OX.out).below l6)).mono ?_; rintro e x7 ⟨u7, rfl, ou7, hb7⟩; have l7 := bstep l6 hb7; have n7 := Zf.call n6 hb7)
            refine wpI_take (i := 6) (v := ?_) rfl (by kernel_rfl) (by kernel_rfl) (by kernel_rfl) (fun _ _ _ h => h) ⟨by rfl, ?_⟩ ?_
            rotate_left
            · intro X _; go_simp; with_reducible rfl
            refine wpI_take (i := 7) (v := ?_) rfl (by kernel_rfl) (by kernel_rfl) (by kernel_rfl) (fun _ _ _ h => h) ⟨by rfl, ?_⟩ ?_
            rotate_left
            · intro X _; go_simp; with_reducible rfl
            refine wpI_take (i := 8) (v := ?_) rfl (by kernel_rfl) (by kernel_rfl) (by kernel_rfl) (fun _ _ _ h => h) ⟨by rfl, ?_⟩ ?_
            rotate_left
            · intro X _; go_simp; with_reducible rfl
            refine wpI_take (i := 9) (v := ?_) rfl (by kernel_rfl) (by kernel_rfl) (by kernel_rfl) (fun _ _ _ h => h) ⟨by rfl, ?_⟩ ?_
            rotate_left
            · intro X _; go_simp; with_reducible rfl
            refine wpI_only (i := 11) rfl (by kernel_rfl) l7 (by rfl) ?_
            intro K hK
            go_simp
            refine hK _ _ ?_
            clear hK K
            refine wpI_only (i := 12) rfl (by kernel_rfl) l7 (by rfl) ?_
            intro K hK
            have m8 : R5 (((((x7.setCell ⟨x2.heap.size, 0, none⟩ (.int .i64 p2.x1)).setCell ⟨x2.heap.size, 1, none⟩ (.int .i64 p2.x2)).setCell ⟨x2.heap.size, 2, none⟩ (.int .i64 p2.y1)).setCell ⟨x2.heap.size, 3, none⟩ (.int .i64 p2.y2)).setCell ⟨x2.heap.size, 4, none⟩ (.int .i64 p2.e)) x2.heap.size p2.x1 p2.x2 p2.y1 p2.y2 p2.e := r5_put n7.1 _ _ _ _ _
            have k8 : Kd (fun q => q = x2.heap.size) x7 (((((x7.setCell ⟨x2.heap.size, 0, none⟩ (.int .i64 p2.x1)).setCell ⟨x2.heap.size, 1, none⟩ (.int .i64 p2.x2)).setCell ⟨x2.heap.size, 2, none⟩ (.int .i64 p2.y1)).setCell ⟨x2.heap.size, 3, none⟩ (.int .i64 p2.y2)).setCell ⟨x2.heap.size, 4, none⟩ (.int .i64 p2.e)) := kd_put5 _ _ _ _ _ _ _
            have l8 : Below V.heap.size V (((((x7.setCell ⟨x2.heap.size, 0, none⟩ (.int .i64 p2.x1)).setCell ⟨x2.heap.size, 1, none⟩ (.int .i64 p2.x2)).setCell ⟨x2.heap.size, 2, none⟩ (.int .i64 p2.y1)).setCell ⟨x2.heap.size, 3, none⟩ (.int .i64 p2.y2)).setCell ⟨x2.heap.size, 4, none⟩ (.int .i64 p2.e)) := Kd.below l7 k8 l7.size (by rintro q rfl; exact gl6)
            have u_8 := own_kd ou7 k8 (fun q hq hd => by have := (World.ownsRow.lt ou7 q hq).1; have := n6.1.lt; omega)
            obtain ⟨⟨c0, c1, c2, c3, c4⟩, ⟨z0, z1, z2, z3, z4⟩⟩ := n7
            go_simp
            refine hK _ _ ?_
            clear hK K
            refine wpI_only (i := 13) rfl (by kernel_rfl) l8 (by rfl) ?_
            intro K hK
            go_simp
            refine hK _ _ ?_
            clear hK K
            refine wpI_done l8 (by kernel_rfl) ?_ _
            go_wp2
            go_meet
            exact ⟨_, rfl, rfl, ⟨BV.out.trans (l8.mono BV.out.size), own_base u_8 l6.size, m8, l8.size, BV.out.size, gl6, fun e => by have := (World.ownsRow.lt ou7 _ e).1; have := n6.1.lt; omega⟩, l8⟩
        · intro K hK
          have n9 : Zf (x1.alloc (.cells #[.int .i64 0, .int .i64 0, .int .i64 0, .int .i64 0, .int .i64 0] 27)) x1.heap.size := Zf.new _ _
          have gl9 : V.heap.size ≤ x1.heap.size := l1.size
          have l9 := l1.alloc l1.size (.cells #[.int .i64 0, .int .i64 0, .int .i64 0, .int .i64 0, .int .i64 0] 27)
          go_simp
          refine hK _ _ ?_
          clear hK K
          refine wpI_only (i := 3) rfl (by kernel_rfl) l9 (by rfl) ?_
          intro K hK
          go_simp
          go_wp2_with (go_at_call 7; refine (toPas_any pa _).mono ?_; rintro e x10 ⟨rfl, hb10⟩; have l10 := bstep l9 hb10; have n10 := Zf.call n9 hb10)
          refine wpI_only (i := 5) rfl (by kernel_rfl) l10 (by rfl) ?_
          intro K hK
          go_simp
          go_wp2_with (go_at_call 9; refine (HI.out _ _ ((il_of_own OX.out).below l10)).mono ?_; rintro e x11 ⟨u11, rfl, ou11, hb11⟩; have l11 := bstep l10 hb11; have n11 := Zf.call n10 hb11)
          refine wpI_take (i := 6) (v := ?_) rfl (by kernel_rfl) (by kernel_rfl) (by kernel_rfl) (fun _ _ _ h => h) ⟨by rfl, ?_⟩ ?_
          rotate_left
          · intro X _; go_simp; with_reducible rfl
          refine wpI_take (i := 7) (v := ?_) rfl (by kernel_rfl) (by kernel_rfl) (by kernel_rfl) (fun _ _ _ h => h) ⟨by rfl, ?_⟩ ?_
          rotate_left
          · intro X _; go_simp; with_reducible rfl
          refine wpI_take (i := 8) (v := ?_) rfl (by kernel_rfl) (by kernel_rfl) (by kernel_rfl) (fun _ _ _ h => h) ⟨by rfl, ?_⟩ ?_
          rotate_left
          · intro X _; go_simp; with_reducible rfl
          refine wpI_take (i := 9) (v := ?_) rfl (by kernel_rfl) (by kernel_rfl) (by kernel_rfl) (fun _ _ _ h => h) ⟨by rfl, ?_⟩ ?_
          rotate_left
          · intro X _; go_simp; with_reducible rfl
          refine wpI_only (i := 11) rfl (by kernel_rfl) l11 (by rfl) ?_
          intro K hK
          go_simp
          refine hK _ _ ?_
          clear hK K
          refine wpI_only (i := 12) rfl (by kernel_rfl) l11 (by rfl) ?_
          intro K hK
          have m12 : R5 (((((x11.setCell ⟨x1.heap.size, 0, none⟩ (.int .i64 p2.x1)).setCell ⟨x1.heap.size, 1, none⟩ (.int .i64 p2.x2)).setCell ⟨x1.heap.size, 2, none⟩ (.int .i64 p2.y1)).setCell ⟨x1.heap.size, 3, none⟩ (.int .i64 p2.y2)).setCell ⟨x1.heap.size, 4, none⟩ (.int .i64 p2.e)) x1.heap.size p2.x1 p2.x2 p2.y1 p2.y2 p2.e := r5_put n11.1 _ _ _ _ _
          have k12 : Kd (fun q => q = x1.heap.size) x11 (((((x11.setCell ⟨x1.heap.size, 0, none⟩ (.int .i64 p2.x1)).setCell ⟨x1.heap.size, 1, none⟩ (.int .i64 p2.x2)).setCell ⟨x1.heap.size, 2, none⟩ (.int .i64 p2.y1)).setCell ⟨x1.heap.size, 3, none⟩ (.int .i64 p2.y2)).setCell ⟨x1.heap.size, 4, none⟩ (.int .i64 p2.e)) := kd_put5 _ _ _ _ _ _ _
          have l12 : Below V.heap.size V (((((x11.setCell ⟨x1.heap.size, 0, none⟩ (.int .i64 p2.x1)).setCell ⟨x1.heap.size, 1, none⟩ (.int .i64 p2.x2)).setCell ⟨x1.heap.size, 2, none⟩ (.int .i64 p2.y1)).setCell ⟨x1.heap.size, 3, none⟩ (.int .i64 p2.y2)).setCell ⟨x1.heap.size, 4, none⟩ (.int .i64 p2.e)) := Kd.below l11 k12 l11.size (by rintro q rfl; exact gl9)
          have u_12 := own_kd ou11 k12 (fun q hq hd => by have := (World.ownsRow.lt ou11 q hq).1; have := n10.1.lt; omega)
          obtain ⟨⟨c0, c1, c2, c3, c4⟩, ⟨z0, z1, z2, z3, z4⟩⟩ := n11
          go_simp
          refine hK _ _ ?_
          clear hK K
          refine wpI_only (i := 13) rfl (by kernel_rfl) l12 (by rfl) ?_
          intro K hK
          go_simp
          refine hK _ _ ?_
          clear hK K
          refine wpI_done l12 (by kernel_rfl) ?_ _
          go_wp2
          go_meet
          exact ⟨_, rfl, rfl, ⟨BV.out.trans (l12.mono BV.out.size), own_base u_12 l10.size, m12, l12.size, BV.out.size, gl9, fun e => by have := (World.ownsRow.lt ou11 _ e).1; have := n10.1.lt; omega⟩, l12⟩
      · intro K hK
        have n13 : Zf (V.drew.alloc (.cells #[.int .i64 0, .int .i64 0, .int .i64 0, .int .i64 0, .int .i64 0] 27)) V.heap.size := Zf.new _ _
        have gl13 : V.heap.size ≤ V.heap.size := l0.size
        have l13 := l0.alloc l0.size (.cells #[.int .i64 0, .int .i64 0, .int .i64 0, .int .i64 0, .int .i64 0] 27)
        go_simp
        refine hK _ _ ?_
        clear hK K
        refine wpI_only (i := 1) rfl (by kernel_rfl) l13 (by rfl) ?_
        intro K hK
        go_simp
        go_wp2_with (go_at_call 6; refine (toSec_any se _).mono ?_; rintro e x14 ⟨rfl, hb14⟩; have l14 := bstep l13 hb14; have n14 := Zf.call n13 hb14)
        refine wpI_only (i := 3) rfl (by kernel_rfl) l14 (by rfl) ?_
        intro K hK
        go_simp
        go_wp2_with (go_at_call 7; refine (toPas_any pa _).mono ?_; rintro e x15 ⟨rfl, hb15⟩; have l15 := bstep l14 hb15; have n15 := Zf.call n14 hb15)
        refine wpI_only (i := 5) rfl (by kernel_rfl) l15 (by rfl) ?_
        intro K hK
        go_simp
        go_wp2_with (go_at_call 9; refine (HI.out _ _ ((il_of_own OX.out).below l15)).mono ?_; rintro e x16 ⟨u16, rfl, ou16, hb16⟩; have l16 := bstep l15 hb16; have n16 := Zf.call n15 hb16)
        refine wpI_take (i := 6) (v := ?_) rfl (by kernel_rfl) (by kernel_rfl) (by kernel_rfl) (fun _ _ _ h => h) ⟨by rfl, ?_⟩ ?_
        rotate_left
        · intro X _; go_simp; with_reducible rfl
        refine wpI_take (i := 7) (v := ?_) rfl (by kernel_rfl) (by kernel_rfl) (by kernel_rfl) (fun _ _ _ h => h) ⟨by rfl, ?_⟩ ?_
        rotate_left
        · intro X _; go_simp; with_reducible rfl
        refine wpI_take (i := 8) (v := ?_) rfl (by kernel_rfl) (by kernel_rfl) (by kernel_rfl) (fun _ _ _ h => h) ⟨by rfl, ?_⟩ ?_
        rotate_left
        · intro X _; go_simp; with_reducible rfl
        refine wpI_take (i := 9) (v := ?_) rfl (by kernel_rfl) (by kernel_rfl) (by kernel_rfl) (fun _ _ _ h => h) ⟨by rfl, ?_⟩ ?_
        rotate_left
        · intro X _; go_simp; with_reducible rfl
        refine wpI_only (i := 11) rfl (by kernel_rfl) l16 (by rfl) ?_
        intro K hK
        go_simp
        refine hK _ _ ?_
        clear hK K
        refine wpI_only (i := 12) rfl (by kernel_rfl) l16 (by rfl) ?_
        intro K hK
        have m17 : R5 (((((x16.setCell ⟨V.heap.size, 0, none⟩ (.int .i64 p2.x1)).setCell ⟨V.heap.size, 1, none⟩ (.int .i64 p2.x2)).setCell ⟨V.heap.size, 2, none⟩ (.int .i64 p2.y1)).setCell ⟨V.heap.size, 3, none⟩ (.int .i64 p2.y2)).setCell ⟨V.heap.size, 4, none⟩ (.int .i64 p2.e)) V.heap.size p2.x1 p2.x2 p2.y1 p2.y2 p2.e := r5_put n16.1 _ _ _ _ _
        have k17 : Kd (fun q => q = V.heap.size) x16 (((((x16.setCell ⟨V.heap.size, 0, none⟩ (.int .i64 p2.x1)).setCell ⟨V.heap.size, 1, none⟩ (.int .i64 p2.x2)).setCell ⟨V.heap.size, 2, none⟩ (.int .i64 p2.y1)).setCell ⟨V.heap.size, 3, none⟩ (.int .i64 p2.y2)).setCell ⟨V.heap.size, 4, none⟩ (.int .i64 p2.e)) := kd_put5 _ _ _ _ _ _ _
        have l17 : Below V.heap.size V (((((x16.setCell ⟨V.heap.size, 0, none⟩ (.int .i64 p2.x1)).setCell ⟨V.heap.size, 1, none⟩ (.int .i64 p2.x2)).setCell ⟨V.heap.size, 2, none⟩ (.int .i64 p2.y1)).setCell ⟨V.heap.size, 3, none⟩ (.int .i64 p2.y2)).setCell ⟨V.heap.size, 4, none⟩ (.int .i64 p2.e)) := Kd.below l16 k17 l16.size (by rintro q rfl; exact gl13)
        have u_17 := own_kd ou16 k17 (fun q hq hd => by have := (World.ownsRow.lt ou16 q hq).1; have := n15.1.lt; omega)
        obtain ⟨⟨c0, c1, c2, c3, c4⟩, ⟨z0, z1, z2, z3, z4⟩⟩ := n16
        go_simp
        refine hK _ _ ?_
        clear hK K
        refine wpI_only (i := 13) rfl (by kernel_rfl) l17 (by rfl) ?_
        intro K hK
        go_simp
        refine hK _ _ ?_
        clear hK K
        refine wpI_done l17 (by kernel_rfl) ?_ _
        go_wp2
        go_meet
        exact ⟨_, rfl, rfl, ⟨BV.out.trans (l17.mono BV.out.size), own_base u_17 l15.size, m17, l17.size, BV.out.size, gl13, fun e => by have := (World.ownsRow.lt ou16 _ e).1; have := n15.1.lt; omega⟩, l17⟩
    case rest =>
      obtain ⟨gg, rfl, rfl, hq⟩ := hcut
      have T0 : Hid (Tq V0 V wc u11 gg N z p2) := hq.out.1
      have OX0 : Hid (wc.ownsRow V0.heap.size 3 1 xv n (ils xs n)) := own_below OX.out hq.out.2
      have XL : Hid (∀ g, xv.ownBlock = some g → g < V.heap.size) := fun g hg => (World.ownsRow.lt OX.out g hg).2
      clear hq RSV RPV OX
      go_upto_region 22 with (first
        | (go_at_call 10; (fail_if_success have := M1); refine (eq_yes (il_of_own T0.out.og) (FW.out.below T0.out.b0) hN).mono ?_; rintro e W1 ⟨rfl, hb⟩; have M1 : Hid True := trivial; have T1 : Hid (Tq V0 V W1 u11 gg N z p2) := T0.out.below hb; have OX1 : Hid (W1.ownsRow V0.heap.size 3 1 xv n (ils xs n)) := own_below OX0.out hb; clear hb; obtain ⟨c0, c1, c2, c3, c4⟩ := T1.out.rg; obtain ⟨d0, d1, d2, d3, d4⟩ := R1.out.call T1.out.b0)
        | (go_at_call 11; have Z := M1; (fail_if_success have := M2); refine (eqPas_any p2 _).mono ?_; rintro e W2 ⟨rfl, hb⟩; have M2 : Hid True := trivial; have T2 : Hid (Tq V0 V W2 u11 gg N z p2) := T1.out.below hb; have OX2 : Hid (W2.ownsRow V0.heap.size 3 1 xv n (ils xs n)) := own_below OX1.out hb; clear hb)
        | (go_at_call 8; have Z := M2; (fail_if_success have := M3); refine (copy_own ((FV.out.below BC.out).below T2.out.b0) h1).mono ?_; rintro e W3 ⟨hb, yv, rfl, hf, ho⟩; have M3 : Hid True := trivial; have T3 : Hid (Tq V0 V W3 u11 gg N z p2) := T2.out.below hb; have OX3 : Hid (W3.ownsRow V0.heap.size 3 1 xv n (ils xs n)) := own_below OX2.out hb; have OY : Hid (Il W3 yv n xs) := hf; clear hb hf ho)
        | (go_at_call 10; have Z := M3; (fail_if_success have := M4); refine (eq_yes (il_of_own OX3.out) OY.out h1).mono ?_; rintro e W4 ⟨rfl, hb⟩; have M4 : Hid True := trivial; have T4 : Hid (Tq V0 V W4 u11 gg N z p2) := T3.out.below hb; have OX4 : Hid (W4.ownsRow V0.heap.size 3 1 xv n (ils xs n)) := own_below OX3.out hb; clear hb)
        | (go_at_call 12; have Z := M4; (fail_if_success have := M5); refine (markedF (K := 1) (B := V0.heap.size) (n := n) (v := xv) (f := xs) OX4.out T4.out.b0.size h1 (by omega)).mono ?_; rintro e W5 ⟨rfl, _, gx, hg, hor, hon⟩; have M5 : Hid True := trivial; have T5 : Hid (Tq V0 V W5 u11 gg N z p2) := (by rcases hor with hor | rfl; exact T4.out.onlyx hon hg (XL.out gx hor); exact T4.out); clear hg hor hon)
        | (go_at_call 10; have Z := M5; (fail_if_success have := M6); refine (eq_yes (il_of_own T5.out.og) (FW.out.below T5.out.b0) hN).mono ?_; rintro e W6 ⟨rfl, hb⟩; have M6 : Hid True := trivial; have T6 : Hid (Tq V0 V W6 u11 gg N z p2) := T5.out.below hb; clear hb; obtain ⟨c0, c1, c2, c3, c4⟩ := T6.out.rg; obtain ⟨d0, d1, d2, d3, d4⟩ := R1.out.call T6.out.b0)
        | (go_at_call 11; have Z := M6; (fail_if_success have := M7); refine (eqPas_any p2 _).mono ?_; rintro e W7 ⟨rfl, hb⟩; have M7 : Hid True := trivial; have T7 : Hid (Tq V0 V W7 u11 gg N z p2) := T6.out.below hb; clear hb)
        | (go_at_call 12; have Z := M7; (fail_if_success have := M8); refine (markedF (K := 1) (B := V.heap.size) (n := N) (v := u11) (f := z) T7.out.og T7.out.sz hN (by omega)).mono ?_; rintro e W8 ⟨rfl, hmk, gx, hg, hor, hon⟩; have M8 : Hid True := trivial; have T8 : Hid (Tq V0 V W8 u11 gg N (mkF 1) p2) := T7.out.onlyg hon hg hor hmk; clear hg hor hon hmk)
        | (go_at_call 13; have Z := M8; (fail_if_success have := M9); refine (heldF (K := 1) T8.out.og hN (by omega)).mono ?_; rintro e w' ⟨rfl, hw⟩; obtain rfl := hw.symm; have M9 : Hid True := trivial))
      have RS8 : Hid (R5 W8 w.heap.size se.b0 se.b1 se.b2 se.a1 se.a2) := RSc.out.call T8.out.b0
      have RP8 : Hid (R5 W8 (w.heap.size + 1) pa.x1 pa.x2 pa.y1 pa.y2 pa.e) := RPc.out.call T8.out.b0
      clear T0 T1 T2 T3 T4 T5 T6 T7 OX0 OX1 OX2 OX3 OX4 OY c0 c1 c2 c3 c4 d0 d1 d2 d3 d4
      go_cut [17, 18, 19] from 99 (fun a b c wx => ∃ g, b = .pointer (some ⟨g, 0, none⟩) ∧ c = .bool ok ∧ Hid (Il wx a N z ∧ R5 wx g p2.x1 p2.x2 p2.y1 p2.y2 p2.e ∧ Below W8.heap.size W8 wx))
      case first =>
        refine wp_region_any (by kernel_rfl) ?_
        change wpAny _ _ _ _ _ _ _ (World.drew _)
        refine wpI_any (I := fun X => Below W8.heap.size W8 X) _ _ _ _ ?_
        have l0 : Below W8.heap.size W8 W8.drew := (Below.refl _ _).drew
        refine wpI_take (i := 0) (v := ?_) rfl (by kernel_rfl) (by kernel_rfl) (by kernel_rfl) (fun _ _ _ h => h) ⟨by rfl, ?_⟩ ?_
        rotate_left
        · intro X hI; obtain ⟨c0, c1, c2, c3, c4⟩ := R5.call RS8.out hI; go_simp; with_reducible rfl
        refine wpI_take (i := 2) (v := ?_) rfl (by kernel_rfl) (by kernel_rfl) (by kernel_rfl) (fun _ _ _ h => h) ⟨by rfl, ?_⟩ ?_
        rotate_left
        · intro X hI; obtain ⟨c0, c1, c2, c3, c4⟩ := R5.call RP8.out hI; go_simp; with_reducible rfl
        refine wpI_take (i := 4) (v := ?_) rfl (by kernel_rfl) (by kernel_rfl) (by kernel_rfl) (fun _ _ _ h => h) ⟨by rfl, ?_⟩ ?_
        rotate_left
        · intro X _; go_simp; with_reducible rfl
        refine wpI_two (i := 1) (j := 11) rfl rfl (by kernel_rfl) l0 (by rfl) (by rfl) ?_ ?_
        · intro K hK
          go_simp
          go_wp2_with (go_at_call 6; refine (toSec_any se _).mono ?_; rintro e x1 ⟨rfl, hb1⟩; have l1 := bstep l0 hb1)
          refine wpI_two (i := 3) (j := 11) rfl rfl (by kernel_rfl) l1 (by rfl) (by rfl) ?_ ?_
          · intro K hK
            go_simp
            go_wp2_with (go_at_call 7; refine (toPas_any pa _).mono ?_; rintro e x2 ⟨rfl, hb2⟩; have l2 := bstep l1 hb2)
            refine wpI_two (i := 5) (j := 11) rfl rfl (by kernel_rfl) l2 (by rfl) (by rfl) ?_ ?_
            · intro K hK
              go_simp
              go_wp2_with (go_at_call 8; refine (copy_own (((FV.out.below BC.out).below T8.out.b0).below l2) h1).mono ?_; rintro e x3 ⟨hb3, a3, rfl, hf3, oa3⟩; have l3 := bstep l2 hb3)
              refine wpI_two (i := 6) (j := 11) rfl rfl (by kernel_rfl) l3 (by rfl) (by rfl) ?_ ?_
              · intro K hK
                go_simp
                go_wp2_with (go_at_call 9; refine (HI.out _ _ (il_of_own oa3)).mono ?_; rintro e x4 ⟨u4, rfl, ou4, hb4⟩; have l4 := bstep l3 hb4)
                refine wpI_take (i := 7) (v := ?_) rfl (by kernel_rfl) (by kernel_rfl) (by kernel_rfl) (fun _ _ _ h => h) ⟨by rfl, ?_⟩ ?_
                rotate_left
                · intro X _; go_simp; with_reducible rfl
                refine wpI_take (i := 8) (v := ?_) rfl (by kernel_rfl) (by kernel_rfl) (by kernel_rfl) (fun _ _ _ h => h) ⟨by rfl, ?_⟩ ?_
                rotate_left
                · intro X _; go_simp; with_reducible rfl
                refine wpI_take (i := 9) (v := ?_) rfl (by kernel_rfl) (by kernel_rfl) (by kernel_rfl) (fun _ _ _ h => h) ⟨by rfl, ?_⟩ ?_
                rotate_left
                · intro X _; go_simp; with_reducible rfl
                refine wpI_take (i := 10) (v := ?_) rfl (by kernel_rfl) (by kernel_rfl) (by kernel_rfl) (fun _ _ _ h => h) ⟨by rfl, ?_⟩ ?_
                rotate_left
                · intro X _; go_simp; with_reducible rfl
                refine wpI_only (i := 11) rfl (by kernel_rfl) l4 (by rfl) ?_
                intro K hK
                have n5 : Zf (x4.alloc (.cells #[.int .i64 0, .int .i64 0, .int .i64 0, .int .i64 0, .int .i64 0] 27)) x4.heap.size := Zf.new _ _
                have gl5 : W8.heap.size ≤ x4.heap.size := l4.size
                have l5 := l4.alloc l4.size (.cells #[.int .i64 0, .int .i64 0, .int .i64 0, .int .i64 0, .int .i64 0] 27)
                have u_5 := own_below ou4 (below_one x4 (.cells #[.int .i64 0, .int .i64 0, .int .i64 0, .int .i64 0, .int .i64 0] 27))
                go_simp
                refine hK _ _ ?_
                clear hK K
                refine wpI_only (i := 12) rfl (by kernel_rfl) l5 (by rfl) ?_
                intro K hK
                go_simp
                refine hK _ _ ?_
                clear hK K
                refine wpI_only (i := 13) rfl (by kernel_rfl) l5 (by rfl) ?_
                intro K hK
                have m6 : R5 (x4.alloc (.cells #[.int .i64 p2.x1, .int .i64 p2.x2, .int .i64 p2.y1, .int .i64 p2.y2, .int .i64 p2.e] 27)) x4.heap.size p2.x1 p2.x2 p2.y1 p2.y2 p2.e := R5.new _ _ _ _ _ _ _
                have l6 := l4.alloc l4.size (.cells #[.int .i64 p2.x1, .int .i64 p2.x2, .int .i64 p2.y1, .int .i64 p2.y2, .int .i64 p2.e] 27)
                have u_6 := own_below ou4 (below_one x4 (.cells #[.int .i64 p2.x1, .int .i64 p2.x2, .int .i64 p2.y1, .int .i64 p2.y2, .int .i64 p2.e] 27))
                obtain ⟨⟨c0, c1, c2, c3, c4⟩, ⟨z0, z1, z2, z3, z4⟩⟩ := n5
                go_simp
                refine hK _ _ ?_
                clear hK K
                refine wpI_only (i := 14) rfl (by kernel_rfl) l6 (by rfl) ?_
                intro K hK
                go_simp
                refine hK _ _ ?_
                clear hK K
                refine wpI_done l6 (by kernel_rfl) ?_ _
                go_wp2
                go_meet
                exact ⟨_, rfl, rfl, il_of_own u_6, m6, l6⟩
              · intro K hK
                have n7 : Zf (x3.alloc (.cells #[.int .i64 0, .int .i64 0, .int .i64 0, .int .i64 0, .int .i64 0] 27)) x3.heap.size := Zf.new _ _
                have gl7 : W8.heap.size ≤ x3.heap.size := l3.size
                have l7 := l3.alloc l3.size (.cells #[.int .i64 0, .int .i64 0, .int .i64 0, .int .i64 0, .int .i64 0] 27)
                have a_7 := own_below oa3 (below_one x3 (.cells #[.int .i64 0, .int .i64 0, .int .i64 0, .int .i64 0, .int .i64 0] 27))
                go_simp
                refine hK _ _ ?_
                clear hK K
                refine wpI_only (i := 6) rfl (by kernel_rfl) l7 (by rfl) ?_
                intro K hK
                go_simp
                go_wp2_with (go_at_call 9; refine (HI.out _ _ (il_of_own a_7)).mono ?_; rintro e x8 ⟨u8, rfl, ou8, hb8⟩; have l8 := bstep l7 hb8; have n8 := Zf.call n7 hb8)
                refine wpI_take (i := 7) (v := ?_) rfl (by kernel_rfl) (by kernel_rfl) (by kernel_rfl) (fun _ _ _ h => h) ⟨by rfl, ?_⟩ ?_
                rotate_left
                · intro X _; go_simp; with_reducible rfl
                refine wpI_take (i := 8) (v := ?_) rfl (by kernel_rfl) (by kernel_rfl) (by kernel_rfl) (fun _ _ _ h => h) ⟨by rfl, ?_⟩ ?_
                rotate_left
                · intro X _; go_simp; with_reducible rfl
                refine wpI_take (i := 9) (v := ?_) rfl (by kernel_rfl) (by kernel_rfl) (by kernel_rfl) (fun _ _ _ h => h) ⟨by rfl, ?_⟩ ?_
                rotate_left
                · intro X _; go_simp; with_reducible rfl
                refine wpI_take (i := 10) (v := ?_) rfl (by kernel_rfl) (by kernel_rfl) (by kernel_rfl) (fun _ _ _ h => h) ⟨by rfl, ?_⟩ ?_
                rotate_left
                · intro X _; go_simp; with_reducible rfl
                refine wpI_only (i := 12) rfl (by kernel_rfl) l8 (by rfl) ?_
                intro K hK
                go_simp
                refine hK _ _ ?_
                clear hK K
                refine wpI_only (i := 13) rfl (by kernel_rfl) l8 (by rfl) ?_
                intro K hK
                have m9 : R5 (((((x8.setCell ⟨x3.heap.size, 0, none⟩ (.int .i64 p2.x1)).setCell ⟨x3.heap.size, 1, none⟩ (.int .i64 p2.x2)).setCell ⟨x3.heap.size, 2, none⟩ (.int .i64 p2.y1)).setCell ⟨x3.heap.size, 3, none⟩ (.int .i64 p2.y2)).setCell ⟨x3.heap.size, 4, none⟩ (.int .i64 p2.e)) x3.heap.size p2.x1 p2.x2 p2.y1 p2.y2 p2.e := r5_put n8.1 _ _ _ _ _
                have k9 : Kd (fun q => q = x3.heap.size) x8 (((((x8.setCell ⟨x3.heap.size, 0, none⟩ (.int .i64 p2.x1)).setCell ⟨x3.heap.size, 1, none⟩ (.int .i64 p2.x2)).setCell ⟨x3.heap.size, 2, none⟩ (.int .i64 p2.y1)).setCell ⟨x3.heap.size, 3, none⟩ (.int .i64 p2.y2)).setCell ⟨x3.heap.size, 4, none⟩ (.int .i64 p2.e)) := kd_put5 _ _ _ _ _ _ _
                have l9 : Below W8.heap.size W8 (((((x8.setCell ⟨x3.heap.size, 0, none⟩ (.int .i64 p2.x1)).setCell ⟨x3.heap.size, 1, none⟩ (.int .i64 p2.x2)).setCell ⟨x3.heap.size, 2, none⟩ (.int .i64 p2.y1)).setCell ⟨x3.heap.size, 3, none⟩ (.int .i64 p2.y2)).setCell ⟨x3.heap.size, 4, none⟩ (.int .i64 p2.e)) := Kd.below l8 k9 l8.size (by rintro q rfl; exact gl7)
                have u_9 := own_kd ou8 k9 (fun q hq hd => by have := (World.ownsRow.lt ou8 q hq).1; have := n7.1.lt; omega)
                obtain ⟨⟨c0, c1, c2, c3, c4⟩, ⟨z0, z1, z2, z3, z4⟩⟩ := n8
                go_simp
                refine hK _ _ ?_
                clear hK K
                refine wpI_only (i := 14) rfl (by kernel_rfl) l9 (by rfl) ?_
                intro K hK
                go_simp
                refine hK _ _ ?_
                clear hK K
                refine wpI_done l9 (by kernel_rfl) ?_ _
                go_wp2
                go_meet
                exact ⟨_, rfl, rfl, il_of_own u_9, m9, l9⟩
            · intro K hK
              have n10 : Zf (x2.alloc (.cells #[.int .i64 0, .int .i64 0, .int .i64 0, .int .i64 0, .int .i64 0] 27)) x2.heap.size := Zf.new _ _
              have gl10 : W8.heap.size ≤ x2.heap.size := l2.size
              have l10 := l2.alloc l2.size (.cells #[.int .i64 0, .int .i64 0, .int .i64 0, .int .i64 0, .int .i64 0] 27)
              go_simp
              refine hK _ _ ?_
              clear hK K
              refine wpI_only (i := 5) rfl (by kernel_rfl) l10 (by rfl) ?_
              intro K hK
              go_simp
              go_wp2_with (go_at_call 8; refine (copy_own (((FV.out.below BC.out).below T8.out.b0).below l10) h1).mono ?_; rintro e x11 ⟨hb11, a11, rfl, hf11, oa11⟩; have l11 := bstep l10 hb11; have n11 := Zf.call n10 hb11)
              refine wpI_only (i := 6) rfl (by kernel_rfl) l11 (by rfl) ?_
              intro K hK
              go_simp
              go_wp2_with (go_at_call 9; refine (HI.out _ _ (il_of_own oa11)).mono ?_; rintro e x12 ⟨u12, rfl, ou12, hb12⟩; have l12 := bstep l11 hb12; have n12 := Zf.call n11 hb12)
              refine wpI_take (i := 7) (v := ?_) rfl (by kernel_rfl) (by kernel_rfl) (by kernel_rfl) (fun _ _ _ h => h) ⟨by rfl, ?_⟩ ?_
              rotate_left
              · intro X _; go_simp; with_reducible rfl
              refine wpI_take (i := 8) (v := ?_) rfl (by kernel_rfl) (by kernel_rfl) (by kernel_rfl) (fun _ _ _ h => h) ⟨by rfl, ?_⟩ ?_
              rotate_left
              · intro X _; go_simp; with_reducible rfl
              refine wpI_take (i := 9) (v := ?_) rfl (by kernel_rfl) (by kernel_rfl) (by kernel_rfl) (fun _ _ _ h => h) ⟨by rfl, ?_⟩ ?_
              rotate_left
              · intro X _; go_simp; with_reducible rfl
              refine wpI_take (i := 10) (v := ?_) rfl (by kernel_rfl) (by kernel_rfl) (by kernel_rfl) (fun _ _ _ h => h) ⟨by rfl, ?_⟩ ?_
              rotate_left
              · intro X _; go_simp; with_reducible rfl
              refine wpI_only (i := 12) rfl (by kernel_rfl) l12 (by rfl) ?_
              intro K hK
              go_simp
              refine hK _ _ ?_
              clear hK K
              refine wpI_only (i := 13) rfl (by kernel_rfl) l12 (by rfl) ?_
              intro K hK
              have m13 : R5 (((((x12.setCell ⟨x2.heap.size, 0, none⟩ (.int .i64 p2.x1)).setCell ⟨x2.heap.size, 1, none⟩ (.int .i64 p2.x2)).setCell ⟨x2.heap.size, 2, none⟩ (.int .i64 p2.y1)).setCell ⟨x2.heap.size, 3, none⟩ (.int .i64 p2.y2)).setCell ⟨x2.heap.size, 4, none⟩ (.int .i64 p2.e)) x2.heap.size p2.x1 p2.x2 p2.y1 p2.y2 p2.e := r5_put n12.1 _ _ _ _ _
              have k13 : Kd (fun q => q = x2.heap.size) x12 (((((x12.setCell ⟨x2.heap.size, 0, none⟩ (.int .i64 p2.x1)).setCell ⟨x2.heap.size, 1, none⟩ (.int .i64 p2.x2)).setCell ⟨x2.heap.size, 2, none⟩ (.int .i64 p2.y1)).setCell ⟨x2.heap.size, 3, none⟩ (.int .i64 p2.y2)).setCell ⟨x2.heap.size, 4, none⟩ (.int .i64 p2.e)) := kd_put5 _ _ _ _ _ _ _
              have l13 : Below W8.heap.size W8 (((((x12.setCell ⟨x2.heap.size, 0, none⟩ (.int .i64 p2.x1)).setCell ⟨x2.heap.size, 1, none⟩ (.int .i64 p2.x2)).setCell ⟨x2.heap.size, 2, none⟩ (.int .i64 p2.y1)).setCell ⟨x2.heap.size, 3, none⟩ (.int .i64 p2.y2)).setCell ⟨x2.heap.size, 4, none⟩ (.int .i64 p2.e)) := Kd.below l12 k13 l12.size (by rintro q rfl; exact gl10)
              have u_13 := own_kd ou12 k13 (fun q hq hd => by have := (World.ownsRow.lt ou12 q hq).1; have := n11.1.lt; omega)
              obtain ⟨⟨c0, c1, c2, c3, c4⟩, ⟨z0, z1, z2, z3, z4⟩⟩ := n12
              go_simp
              refine hK _ _ ?_
              clear hK K
              refine wpI_only (i := 14) rfl (by kernel_rfl) l13 (by rfl) ?_
              intro K hK
              go_simp
              refine hK _ _ ?_
              clear hK K
              refine wpI_done l13 (by kernel_rfl) ?_ _
              go_wp2
              go_meet
              exact ⟨_, rfl, rfl, il_of_own u_13, m13, l13⟩
          · intro K hK
            have n14 : Zf (x1.alloc (.cells #[.int .i64 0, .int .i64 0, .int .i64 0, .int .i64 0, .int .i64 0] 27)) x1.heap.size := Zf.new _ _
            have gl14 : W8.heap.size ≤ x1.heap.size := l1.size
            have l14 := l1.alloc l1.size (.cells #[.int .i64 0, .int .i64 0, .int .i64 0, .int .i64 0, .int .i64 0] 27)
            go_simp
            refine hK _ _ ?_
            clear hK K
            refine wpI_only (i := 3) rfl (by kernel_rfl) l14 (by rfl) ?_
            intro K hK
            go_simp
            go_wp2_with (go_at_call 7; refine (toPas_any pa _).mono ?_; rintro e x15 ⟨rfl, hb15⟩; have l15 := bstep l14 hb15; have n15 := Zf.call n14 hb15)
            refine wpI_only (i := 5) rfl (by kernel_rfl) l15 (by rfl) ?_
            intro K hK
            go_simp
            go_wp2_with (go_at_call 8; refine (copy_own (((FV.out.below BC.out).below T8.out.b0).below l15) h1).mono ?_; rintro e x16 ⟨hb16, a16, rfl, hf16, oa16⟩; have l16 := bstep l15 hb16; have n16 := Zf.call n15 hb16)
            refine wpI_only (i := 6) rfl (by kernel_rfl) l16 (by rfl) ?_
            intro K hK
            go_simp
            go_wp2_with (go_at_call 9; refine (HI.out _ _ (il_of_own oa16)).mono ?_; rintro e x17 ⟨u17, rfl, ou17, hb17⟩; have l17 := bstep l16 hb17; have n17 := Zf.call n16 hb17)
            refine wpI_take (i := 7) (v := ?_) rfl (by kernel_rfl) (by kernel_rfl) (by kernel_rfl) (fun _ _ _ h => h) ⟨by rfl, ?_⟩ ?_
            rotate_left
            · intro X _; go_simp; with_reducible rfl
            refine wpI_take (i := 8) (v := ?_) rfl (by kernel_rfl) (by kernel_rfl) (by kernel_rfl) (fun _ _ _ h => h) ⟨by rfl, ?_⟩ ?_
            rotate_left
            · intro X _; go_simp; with_reducible rfl
            refine wpI_take (i := 9) (v := ?_) rfl (by kernel_rfl) (by kernel_rfl) (by kernel_rfl) (fun _ _ _ h => h) ⟨by rfl, ?_⟩ ?_
            rotate_left
            · intro X _; go_simp; with_reducible rfl
            refine wpI_take (i := 10) (v := ?_) rfl (by kernel_rfl) (by kernel_rfl) (by kernel_rfl) (fun _ _ _ h => h) ⟨by rfl, ?_⟩ ?_
            rotate_left
            · intro X _; go_simp; with_reducible rfl
            refine wpI_only (i := 12) rfl (by kernel_rfl) l17 (by rfl) ?_
            intro K hK
            go_simp
            refine hK _ _ ?_
            clear hK K
            refine wpI_only (i := 13) rfl (by kernel_rfl) l17 (by rfl) ?_
            intro K hK
            have m18 : R5 (((((x17.setCell ⟨x1.heap.size, 0, none⟩ (.int .i64 p2.x1)).setCell ⟨x1.heap.size, 1, none⟩ (.int .i64 p2.x2)).setCell ⟨x1.heap.size, 2, none⟩ (.int .i64 p2.y1)).setCell ⟨x1.heap.size, 3, none⟩ (.int .i64 p2.y2)).setCell ⟨x1.heap.size, 4, none⟩ (.int .i64 p2.e)) x1.heap.size p2.x1 p2.x2 p2.y1 p2.y2 p2.e := r5_put n17.1 _ _ _ _ _
            have k18 : Kd (fun q => q = x1.heap.size) x17 (((((x17.setCell ⟨x1.heap.size, 0, none⟩ (.int .i64 p2.x1)).setCell ⟨x1.heap.size, 1, none⟩ (.int .i64 p2.x2)).setCell ⟨x1.heap.size, 2, none⟩ (.int .i64 p2.y1)).setCell ⟨x1.heap.size, 3, none⟩ (.int .i64 p2.y2)).setCell ⟨x1.heap.size, 4, none⟩ (.int .i64 p2.e)) := kd_put5 _ _ _ _ _ _ _
            have l18 : Below W8.heap.size W8 (((((x17.setCell ⟨x1.heap.size, 0, none⟩ (.int .i64 p2.x1)).setCell ⟨x1.heap.size, 1, none⟩ (.int .i64 p2.x2)).setCell ⟨x1.heap.size, 2, none⟩ (.int .i64 p2.y1)).setCell ⟨x1.heap.size, 3, none⟩ (.int .i64 p2.y2)).setCell ⟨x1.heap.size, 4, none⟩ (.int .i64 p2.e)) := Kd.below l17 k18 l17.size (by rintro q rfl; exact gl14)
            have u_18 := own_kd ou17 k18 (fun q hq hd => by have := (World.ownsRow.lt ou17 q hq).1; have := n16.1.lt; omega)
            obtain ⟨⟨c0, c1, c2, c3, c4⟩, ⟨z0, z1, z2, z3, z4⟩⟩ := n17
            go_simp
            refine hK _ _ ?_
            clear hK K
            refine wpI_only (i := 14) rfl (by kernel_rfl) l18 (by rfl) ?_
            intro K hK
            go_simp
            refine hK _ _ ?_
            clear hK K
            refine wpI_done l18 (by kernel_rfl) ?_ _
            go_wp2
            go_meet
            exact ⟨_, rfl, rfl, il_of_own u_18, m18, l18⟩
        · intro K hK
          have n19 : Zf (W8.drew.alloc (.cells #[.int .i64 0, .int .i64 0, .int .i64 0, .int .i64 0, .int .i64 0] 27)) W8.heap.size := Zf.new _ _
          have gl19 : W8.heap.size ≤ W8.heap.size := l0.size
          have l19 := l0.alloc l0.size (.cells #[.int .i64 0, .int .i64 0, .int .i64 0, .int .i64 0, .int .i64 0] 27)
          go_simp
          refine hK _ _ ?_
          clear hK K
          refine wpI_only (i := 1) rfl (by kernel_rfl) l19 (by rfl) ?_
          intro K hK
          go_simp
          go_wp2_with (go_at_call 6; refine (toSec_any se _).mono ?_; rintro e x20 ⟨rfl, hb20⟩; have l20 := bstep l19 hb20; have n20 := Zf.call n19 hb20)
          refine wpI_only (i := 3) rfl (by kernel_rfl) l20 (by rfl) ?_
          intro K hK
          go_simp
          go_wp2_with (go_at_call 7; refine (toPas_any pa _).mono ?_; rintro e x21 ⟨rfl, hb21⟩; have l21 := bstep l20 hb21; have n21 := Zf.call n20 hb21)
          refine wpI_only (i := 5) rfl (by kernel_rfl) l21 (by rfl) ?_
          intro K hK
          go_simp
          go_wp2_with (go_at_call 8; refine (copy_own (((FV.out.below BC.out).below T8.out.b0).below l21) h1).mono ?_; rintro e x22 ⟨hb22, a22, rfl, hf22, oa22⟩; have l22 := bstep l21 hb22; have n22 := Zf.call n21 hb22)
          refine wpI_only (i := 6) rfl (by kernel_rfl) l22 (by rfl) ?_
          intro K hK
          go_simp
          go_wp2_with (go_at_call 9; refine (HI.out _ _ (il_of_own oa22)).mono ?_; rintro e x23 ⟨u23, rfl, ou23, hb23⟩; have l23 := bstep l22 hb23; have n23 := Zf.call n22 hb23)
          refine wpI_take (i := 7) (v := ?_) rfl (by kernel_rfl) (by kernel_rfl) (by kernel_rfl) (fun _ _ _ h => h) ⟨by rfl, ?_⟩ ?_
          rotate_left
          · intro X _; go_simp; with_reducible rfl
          refine wpI_take (i := 8) (v := ?_) rfl (by kernel_rfl) (by kernel_rfl) (by kernel_rfl) (fun _ _ _ h => h) ⟨by rfl, ?_⟩ ?_
          rotate_left
          · intro X _; go_simp; with_reducible rfl
          refine wpI_take (i := 9) (v := ?_) rfl (by kernel_rfl) (by kernel_rfl) (by kernel_rfl) (fun _ _ _ h => h) ⟨by rfl, ?_⟩ ?_
          rotate_left
          · intro X _; go_simp; with_reducible rfl
          refine wpI_take (i := 10) (v := ?_) rfl (by kernel_rfl) (by kernel_rfl) (by kernel_rfl) (fun _ _ _ h => h) ⟨by rfl, ?_⟩ ?_
          rotate_left
          · intro X _; go_simp; with_reducible rfl
          refine wpI_only (i := 12) rfl (by kernel_rfl) l23 (by rfl) ?_
          intro K hK
          go_simp
          refine hK _ _ ?_
          clear hK K
          refine wpI_only (i := 13) rfl (by kernel_rfl) l23 (by rfl) ?_
          intro K hK
          have m24 : R5 (((((x23.setCell ⟨W8.heap.size, 0, none⟩ (.int .i64 p2.x1)).setCell ⟨W8.heap.size, 1, none⟩ (.int .i64 p2.x2)).setCell ⟨W8.heap.size, 2, none⟩ (.int .i64 p2.y1)).setCell ⟨W8.heap.size, 3, none⟩ (.int .i64 p2.y2)).setCell ⟨W8.heap.size, 4, none⟩ (.int .i64 p2.e)) W8.heap.size p2.x1 p2.x2 p2.y1 p2.y2 p2.e := r5_put n23.1 _ _ _ _ _
          have k24 : Kd (fun q => q = W8.heap.size) x23 (((((x23.setCell ⟨W8.heap.size, 0, none⟩ (.int .i64 p2.x1)).setCell ⟨W8.heap.size, 1, none⟩ (.int .i64 p2.x2)).setCell ⟨W8.heap.size, 2, none⟩ (.int .i64 p2.y1)).setCell ⟨W8.heap.size, 3, none⟩ (.int .i64 p2.y2)).setCell ⟨W8.heap.size, 4, none⟩ (.int .i64 p2.e)) := kd_put5 _ _ _ _ _ _ _
          have l24 : Below W8.heap.size W8 (((((x23.setCell ⟨W8.heap.size, 0, none⟩ (.int .i64 p2.x1)).setCell ⟨W8.heap.size, 1, none⟩ (.int .i64 p2.x2)).setCell ⟨W8.heap.size, 2, none⟩ (.int .i64 p2.y1)).setCell ⟨W8.heap.size, 3, none⟩ (.int .i64 p2.y2)).setCell ⟨W8.heap.size, 4, none⟩ (.int .i64 p2.e)) := Kd.below l23 k24 l23.size (by rintro q rfl; exact gl19)
          have u_24 := own_kd ou23 k24 (fun q hq hd => by have := (World.ownsRow.lt ou23 q hq).1; have := n22.1.lt; omega)
          obtain ⟨⟨c0, c1, c2, c3, c4⟩, ⟨z0, z1, z2, z3, z4⟩⟩ := n23
          go_simp
          refine hK _ _ ?_
          clear hK K
          refine wpI_only (i := 14) rfl (by kernel_rfl) l24 (by rfl) ?_
          intro K hK
          go_simp
          refine hK _ _ ?_
          clear hK K
          refine wpI_done l24 (by kernel_rfl) ?_ _
          go_wp2
          go_meet
          exact ⟨_, rfl, rfl, il_of_own u_24, m24, l24⟩
      case rest =>
        obtain ⟨gh, rfl, rfl, hq⟩ := hcut
        have FH : Hid (Il wc u17 N z) := hq.out.1
        have RH : Hid (R5 wc gh p2.x1 p2.x2 p2.y1 p2.y2 p2.e) := hq.out.2.1
        have T9 : Hid (Tq V0 V wc u11 gg N (mkF 1) p2) := T8.out.below hq.out.2.2
        clear hq RS8 RP8 T8
        go_wp2_with (first
          | (go_at_call 10; (fail_if_success have := L1); refine (eq_yes FH.out (FW.out.below T9.out.b0) hN).mono ?_; rintro e X1 ⟨rfl, hb⟩; have L1 : Hid True := trivial; have T10 : Hid (Tq V0 V X1 u11 gg N (mkF 1) p2) := T9.out.below hb; obtain ⟨c0, c1, c2, c3, c4⟩ := RH.out.call hb; obtain ⟨d0, d1, d2, d3, d4⟩ := R1.out.call T10.out.b0; clear hb)
          | (go_at_call 11; have Z := L1; (fail_if_success have := L2); refine (eqPas_any p2 _).mono ?_; rintro e X2 ⟨rfl, hb⟩; have L2 : Hid True := trivial; have T11 : Hid (Tq V0 V X2 u11 gg N (mkF 1) p2) := T10.out.below hb; clear hb)
          | (go_at_call 13; have Z := L2; (fail_if_success have := L3); refine (heldF (K := 1) T11.out.og hN (by omega)).mono ?_; rintro e w' ⟨rfl, hw⟩; obtain rfl := hw.symm; have L3 : Hid True := trivial))
        go_ret
        exact ⟨rfl, BC.out.trans (T11.out.b0.mono BC.out.size)⟩

theorem iir_big {w : World} {v : Value} {n : Nat} {xs : Nat → Int} {se : Se} {pa : Pa} (hv : Il w v n xs) (h1 : 1048576 < n) (hn : n ≤ 9223372036854775807) : Calls Try.prog 3 #[se.v, pa.v, v] w fun e w' => e = .returned (.bool true) ∧ Below w.heap.size w w' := by
  obtain ⟨ao, cap, rfl, hcap, hc⟩ := hv
  clear hc
  go_enter Try.func3, Try.ntmps3
  go_wp2
  go_ret
  exact ⟨rfl, bstep (below_one _ _) (below_one _ _)⟩

theorem walk_iir {w : World} {v : Value} {n : Nat} {xs : Nat → Int} (se : Se) (pa : Pa) (hv : Il w v n xs) (hn : n ≤ 9223372036854775807) : Calls Try.prog 3 #[se.v, pa.v, v] w fun e w' => e = .returned (.bool true) ∧ Below w.heap.size w w' := by
  rcases Nat.lt_or_ge 1048576 n with h1 | h1
  · exact iir_big hv h1 hn
  · by_cases h : GI se pa n xs
    · exact wiir_of hv h1 n h1 _ _ true (fun W u hu => sIir_good hu h) (fun W u hu => iIir_good hu h)
    · exact wiir_of hv h1 0 (by omega) (fun _ => 0) ⟨0, 0, 0, 0, 0⟩ false (fun W u hu => sIir_bad hu h1 h _) (fun W u hu => iIir_bad hu h1 h _)
end Go.Proofs.Ytmjgaocmmmcnfaa
