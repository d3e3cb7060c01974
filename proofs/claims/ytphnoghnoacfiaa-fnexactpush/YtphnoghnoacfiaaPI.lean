/- Push: the law. -/
import Derived.Test.YtphnoghnoacfiaaPH
namespace Go.Proofs.Ytphnoghnoacfiaa
open Go.RowKit

set_option maxRecDepth 100000 in
set_option maxHeartbeats 16000000 in
theorem wpush_of {w : World} {v lv : Value} {n N : Nat} {cs xs : Nat → Int} (hv : Il w v n cs) (hl : Il w lv N xs) (hn : n ≤ 1048576) (hN : N ≤ 1048576) (o : Int) (n2 N2 : Nat) (hn2 : n2 ≤ 1048576) (hN2 : N2 ≤ 1048576) (zs ys : Nat → Int) (p : Int) (ok : Bool)
    (hs : ∀ W u l, Il W u n cs → Il W l N xs → Calls Try.prog 6 #[.agg #[u, .int .i64 o], l] W fun e w' => Ppu W w' e n2 zs p N2 ys ok)
    (hi : ∀ W u l, Il W u n cs → Il W l N xs → Calls Try.prog 9 #[.agg #[u, .int .i64 o], l] W fun e w' => Ppu W w' e n2 zs p N2 ys ok) :
    Calls Try.prog 3 #[.agg #[v, .int .i64 o], lv] w fun e w' => e = .returned (.bool true) ∧ Below w.heap.size w w' := by
  have HS : Hid (∀ W u l, Il W u n cs → Il W l N xs → Calls Try.prog 6 #[.agg #[u, .int .i64 o], l] W fun e w' => Ppu W w' e n2 zs p N2 ys ok) := hs
  have HI : Hid (∀ W u l, Il W u n cs → Il W l N xs → Calls Try.prog 9 #[.agg #[u, .int .i64 o], l] W fun e w' => Ppu W w' e n2 zs p N2 ys ok) := hi
  have b1 := below_one w (.cells #[v, .int .i64 o] 24)
  have R1 := Rg.new w v (.int .i64 o) 24
  have FV := hv.below b1
  have FL := hl.below b1
  obtain ⟨ao, cap, rfl, hcap, hc⟩ := hv
  obtain ⟨lo, lc, rfl, hlc, hc2⟩ := hl
  clear hc hc2 hs hi
  have i1 := szRing_any (w := w.alloc (.cells #[.slice ao n cap, .int .i64 o] 24)) (ao := ao) (n := n) (cap := cap) o (by omega)
  rw [if_pos hn] at i1
  have BW : Hid (Below w.heap.size w (w.alloc (.cells #[.slice ao n cap, .int .i64 o] 24))) := b1
  have VI : Hid (Il (w.alloc (.cells #[.slice ao n cap, .int .i64 o] 24)) (.slice ao n cap) n cs) := FV
  have LI : Hid (Il (w.alloc (.cells #[.slice ao n cap, .int .i64 o] 24)) (.slice lo N lc) N xs) := FL
  have RV : Hid (Rg (w.alloc (.cells #[.slice ao n cap, .int .i64 o] 24)) w.heap.size (.slice ao n cap) (.int .i64 o)) := R1
  clear FV FL b1 R1
  have hok : (ok != ok) = false := by simp
  go_enter Try.func3, Try.ntmps3
  go_upto_region 8 with (first
    | (go_at_call 5; (with_reducible refine i1.mono ?_); rintro e w2 ⟨rfl, hb⟩; have BW : Hid (Below w.heap.size w w2) := bstep BW.out hb; have VI : Hid (Il w2 (.slice ao n cap) n cs) := VI.out.below hb; have LI : Hid (Il w2 (.slice lo N lc) N xs) := LI.out.below hb; have RV : Hid (Rg w2 w.heap.size (.slice ao n cap) (.int .i64 o)) := RV.out.call hb; have c0 := RV.out.c0; have c1 := RV.out.c1; clear hb)
    | (go_at_call 7; (with_reducible refine (toRing_any VI.out hn o).mono ?_); rintro e w3 ⟨u, rfl, hu, hb⟩; have UI : Hid (Il w3 u n cs) := il_of_own hu; have BW : Hid (Below w.heap.size w w3) := bstep BW.out hb; have VI : Hid (Il w3 (.slice ao n cap) n cs) := VI.out.below hb; have LI : Hid (Il w3 (.slice lo N lc) N xs) := LI.out.below hb; have RV : Hid (Rg w3 w.heap.size (.slice ao n cap) (.int .i64 o)) := RV.out.call hb; clear hu hb)
    | (go_at_call 8; (with_reducible refine (copy_own LI.out hN).mono ?_); rintro e w4 ⟨hb, l, rfl, hf, hl2⟩; have L4 : Hid (Il w4 l N xs) := hf; have UI : Hid (Il w4 u n cs) := UI.out.below hb; have BW : Hid (Below w.heap.size w w4) := bstep BW.out hb; have VI : Hid (Il w4 (.slice ao n cap) n cs) := VI.out.below hb; have LI : Hid (Il w4 (.slice lo N lc) N xs) := LI.out.below hb; have RV : Hid (Rg w4 w.heap.size (.slice ao n cap) (.int .i64 o)) := RV.out.call hb; clear hf hl2 hb)
    | (go_at_call 6; (with_reducible refine (HS.out _ _ _ UI.out L4.out).mono ?_); rintro e w5 ⟨wv, wu, rfl, hc5, hu5, hap, hb⟩; obtain ⟨wo, wcap, rfl, hwc, hx1⟩ := il_of_own hc5; have ba := below_one w5 (.cells #[.slice wo n2 wcap, .int .i64 p] 26); have WC : Hid (Il (w5.alloc (.cells #[.slice wo n2 wcap, .int .i64 p] 26)) (.slice wo n2 wcap) n2 zs) := (il_of_own hc5).below ba; have WU : Hid (Il (w5.alloc (.cells #[.slice wo n2 wcap, .int .i64 p] 26)) wu N2 ys) := (il_of_own hu5).below ba; have R6 : Hid (Rg (w5.alloc (.cells #[.slice wo n2 wcap, .int .i64 p] 26)) w5.heap.size (.slice wo n2 wcap) (.int .i64 p)) := Rg.new _ _ _ _; have BW : Hid (Below w.heap.size w (w5.alloc (.cells #[.slice wo n2 wcap, .int .i64 p] 26))) := bstep (bstep BW.out hb) ba; have VI : Hid (Il (w5.alloc (.cells #[.slice wo n2 wcap, .int .i64 p] 26)) (.slice ao n cap) n cs) := (VI.out.below hb).below ba; have LI : Hid (Il (w5.alloc (.cells #[.slice wo n2 wcap, .int .i64 p] 26)) (.slice lo N lc) N xs) := (LI.out.below hb).below ba; have RV : Hid (Rg (w5.alloc (.cells #[.slice wo n2 wcap, .int .i64 p] 26)) w.heap.size (.slice ao n cap) (.int .i64 o)) := (RV.out.call hb).call ba; clear hc5 hu5 hap hb hx1 ba))
  clear i1 HS UI L4 c0 c1
  generalize (w5.alloc (.cells #[.slice wo n2 wcap, .int .i64 p] 26)) = Ws at *
  generalize w5.heap.size = b6 at *
  have c0 := RV.out.c0
  have c1 := RV.out.c1
  go_upto_region 9 with (first
    | (go_at_call 7; (with_reducible refine (toRing_any VI.out hn o).mono ?_); rintro e w6 ⟨xc, rfl, hu, hb⟩; obtain ⟨xo, xcap, rfl, hxc, hx1⟩ := il_of_own hu; have ba := below_one w6 (.cells #[.slice xo n xcap, .int .i64 o] 26); have X0 : Hid ((w6.alloc (.cells #[.slice xo n xcap, .int .i64 o] 26)).ownsRow Ws.heap.size 3 1 (.slice xo n xcap) n (ils cs n)) := own_below hu ba; have D : Hid (Below Ws.heap.size Ws (w6.alloc (.cells #[.slice xo n xcap, .int .i64 o] 26))) := bstep hb ba; have R9 : Hid (Rg (w6.alloc (.cells #[.slice xo n xcap, .int .i64 o] 26)) w6.heap.size (.slice xo n xcap) (.int .i64 o)) := Rg.new _ _ _ _; have N9 : Hid ((Value.slice xo n xcap).ownBlock ≠ some w6.heap.size) := (fun e => by have := (World.ownsRow.lt hu _ e).2; omega); clear hu hb hx1 ba))
  generalize (w6.alloc (.cells #[.slice xo n xcap, .int .i64 o] 26)) = W6 at *
  generalize w6.heap.size = b9 at *
  have X0s : Hid (W6.ownsRow Ws.heap.size 3 1 (.slice xo n xcap) n (ils cs n)) := X0.out
  clear c0 c1
  go_upto_region 10 with (first
    | (go_at_call 8; (with_reducible refine (copy_own (LI.out.below D.out) hN).mono ?_); rintro e w7 ⟨hb, x1, rfl, hf, ho1⟩; have X1 : Hid (w7.ownsRow W6.heap.size 3 1 x1 N (ils xs N)) := ho1; have X0 : Hid (w7.ownsRow Ws.heap.size 3 1 (.slice xo n xcap) n (ils cs n)) := own_below X0.out hb; have S6 : Hid (Ws.heap.size ≤ W6.heap.size) := D.out.size; have D : Hid (Below Ws.heap.size Ws w7) := bstep D.out hb; have R9 : Hid (Rg w7 b9 (.slice xo n xcap) (.int .i64 o)) := R9.out.call hb; have c0 := R9.out.c0; have c1 := R9.out.c1; have L7 : Hid (W6.heap.size ≤ w7.heap.size) := hb.size; clear hf ho1 hb))
  go_upto_region 11 with (first
    | (go_at_call 9; (with_reducible refine (HI.out _ _ _ (il_of_own X0.out) (il_of_own X1.out)).mono ?_); rintro e w8 ⟨gc, gu, rfl, hc5, hu5, hap, hb⟩; obtain ⟨go, gcap, rfl, hgc, hx1⟩ := il_of_own hc5; have ba := below_one w8 (.cells #[.slice go n2 gcap, .int .i64 p] 26); have G : Hid (Gb Ws w7 (w8.alloc (.cells #[.slice go n2 gcap, .int .i64 p] 26)) w8.heap.size (.slice go n2 gcap) gu n2 N2 zs ys p) := ⟨bstep (bstep D.out hb) ba, own_below hc5 ba, own_below hu5 ba, hap, Rg.new _ _ _ _, (fun e => by have := (World.ownsRow.lt hc5 _ e).2; omega), (fun e => by have := (World.ownsRow.lt hu5 _ e).2; omega), hb.size, D.out.size, (bstep hb ba).size⟩; have X0b : Hid (∀ k, (Value.slice xo n xcap).ownBlock = some k → k < w7.heap.size) := fun k hk => (World.ownsRow.lt X0.out k hk).2; have X1b : Hid (∀ k, x1.ownBlock = some k → k < w7.heap.size) := fun k hk => (World.ownsRow.lt X1.out k hk).2; have X0 : Hid ((w8.alloc (.cells #[.slice go n2 gcap, .int .i64 p] 26)).ownsRow Ws.heap.size 3 1 (.slice xo n xcap) n (ils cs n)) := own_below (own_below X0.out hb) ba; have X1 : Hid ((w8.alloc (.cells #[.slice go n2 gcap, .int .i64 p] 26)).ownsRow W6.heap.size 3 1 x1 N (ils xs N)) := own_below (own_below X1.out hb) ba; have R9 : Hid (Rg (w8.alloc (.cells #[.slice go n2 gcap, .int .i64 p] 26)) b9 (.slice xo n xcap) (.int .i64 o)) := (R9.out.call hb).call ba; clear hc5 hu5 hap hb hx1 ba))
  generalize (w8.alloc (.cells #[.slice go n2 gcap, .int .i64 p] 26)) = W8 at *
  generalize w8.heap.size = b11 at *
  clear c0 c1
  have c0 := G.out.rb.c0
  have c1 := G.out.rb.c1
  obtain ⟨d0, d1, _, _⟩ := R6.out.call G.out.D
  go_upto_region 13 with (first
    | (go_at_call 10; (with_reducible refine (eqRing_any (il_of_own G.out.oc) (WC.out.below G.out.D) hn2 p).mono ?_); rintro e w9 ⟨rfl, hb⟩; have G : Hid (Gb Ws w7 w9 b11 (.slice go n2 gcap) gu n2 N2 zs ys p) := G.out.below hb; have X0 : Hid (w9.ownsRow Ws.heap.size 3 1 (.slice xo n xcap) n (ils cs n)) := own_below X0.out hb; have X1 : Hid (w9.ownsRow W6.heap.size 3 1 x1 N (ils xs N)) := own_below X1.out hb; have R9 : Hid (Rg w9 b9 (.slice xo n xcap) (.int .i64 o)) := R9.out.call hb; clear hb)
    | (go_at_call 11; (with_reducible refine (eq_yes (il_of_own G.out.ou) (WU.out.below G.out.D) hN2).mono ?_); rintro e w10 ⟨rfl, hb⟩; have G : Hid (Gb Ws w7 w10 b11 (.slice go n2 gcap) gu n2 N2 zs ys p) := G.out.below hb; have X0 : Hid (w10.ownsRow Ws.heap.size 3 1 (.slice xo n xcap) n (ils cs n)) := own_below X0.out hb; have X1 : Hid (w10.ownsRow W6.heap.size 3 1 x1 N (ils xs N)) := own_below X1.out hb; have R9 : Hid (Rg w10 b9 (.slice xo n xcap) (.int .i64 o)) := R9.out.call hb; clear hb))
  clear c0 c1 d0 d1
  refine wp_region_any (by kernel_rfl) ?_
  change wpAny _ _ _ _ _ _ _ (World.drew _)
  refine wpI_any (I := fun X => Below w10.heap.size w10 X) _ _ _ _ ?_
  have l0 : Below w10.heap.size w10 w10.drew := (Below.refl _ _).drew
  refine wpI_take (i := 0) (v := ?_) rfl (by kernel_rfl) (by kernel_rfl) (by kernel_rfl) (fun _ _ _ h => h) ⟨by rfl, ?_⟩ ?_
  rotate_left
  · intro X hI; obtain ⟨c0, c1, _, _⟩ := R9.out.call hI; go_simp; with_reducible rfl
  refine wpI_take (i := 1) (v := ?_) rfl (by kernel_rfl) (by kernel_rfl) (by kernel_rfl) (fun _ _ _ h => h) ⟨by rfl, ?_⟩ ?_
  rotate_left
  · intro X hI; obtain ⟨c0, c1, _, _⟩ := (RV.out.call G.out.D).call hI; go_simp; with_reducible rfl
  refine wpI_only (i := 2) rfl ?_ l0 ?_ ?_
  · kernel_rfl
  · rfl
  intro K hK
  go_simp
  go_wp2_with (go_at_call 7; refine (toRing_any ((VI.out.below G.out.D).below l0) hn o).mono ?_; rintro e y1 ⟨yv, rfl, hyo, hb1⟩; have l1 := bstep l0 hb1; have YI : Hid (Il y1 yv n cs) := il_of_own hyo; clear hyo)
  refine wpI_only (i := 3) rfl ?_ l1 ?_ ?_
  · kernel_rfl
  · rfl
  intro K hK
  go_simp
  go_wp2_with (go_at_call 10; refine (eqRing_any ((il_of_own X0.out).below l1) YI.out hn o).mono ?_; rintro e y2 ⟨rfl, hb2⟩; have l2 := bstep l1 hb2)
  refine wpI_only (i := 4) rfl ?_ l2 ?_ ?_
  · kernel_rfl
  · rfl
  intro K hK
  go_simp
  refine hK _ _ ?_
  clear hK K
  refine wpI_done l2 (by kernel_rfl) ?_ _
  have G : Hid (Gb Ws w7 y2 b11 (.slice go n2 gcap) gu n2 N2 zs ys p) := G.out.below l2
  have X0 : Hid (y2.ownsRow Ws.heap.size 3 1 (.slice xo n xcap) n (ils cs n)) := own_below X0.out l2
  have X1 : Hid (y2.ownsRow W6.heap.size 3 1 x1 N (ils xs N)) := own_below X1.out l2
  have R9 : Hid (Rg y2 b9 (.slice xo n xcap) (.int .i64 o)) := R9.out.call l2
  clear l0 l1 l2 YI hb1 hb2
  go_upto_region 17 with (first
    | (go_at_call 8; (with_reducible refine (copy_own (LI.out.below G.out.D) hN).mono ?_); rintro e w11 ⟨hb, z1, rfl, hf, hz1⟩; have G : Hid (Gb Ws w7 w11 b11 (.slice go n2 gcap) gu n2 N2 zs ys p) := G.out.below hb; have X0 : Hid (w11.ownsRow Ws.heap.size 3 1 (.slice xo n xcap) n (ils cs n)) := own_below X0.out hb; have X1 : Hid (w11.ownsRow W6.heap.size 3 1 x1 N (ils xs N)) := own_below X1.out hb; have R9 : Hid (Rg w11 b9 (.slice xo n xcap) (.int .i64 o)) := R9.out.call hb; have Z1 : Hid (Il w11 z1 N xs) := hf; clear hb hf hz1)
    | (go_at_call 11; (with_reducible refine (eq_yes (il_of_own X1.out) Z1.out hN).mono ?_); rintro e w12 ⟨rfl, hb⟩; have G : Hid (Gb Ws w7 w12 b11 (.slice go n2 gcap) gu n2 N2 zs ys p) := G.out.below hb; have X0 : Hid (w12.ownsRow Ws.heap.size 3 1 (.slice xo n xcap) n (ils cs n)) := own_below X0.out hb; have X1 : Hid (w12.ownsRow W6.heap.size 3 1 x1 N (ils xs N)) := own_below X1.out hb; have R9 : Hid (Rg w12 b9 (.slice xo n xcap) (.int .i64 o)) := R9.out.call hb; clear hb))
  obtain ⟨c0, c1, _, _⟩ := R9.out
  have hx0 := Nat.le_trans G.out.hs G.out.hx
  go_upto_region 19 with (first
    | (go_at_call 12; (with_reducible refine (markRing (K := 1) o X0.out hx0 hn (by omega)).mono ?_); rintro e w13 ⟨rfl, _, W1, gx, hb, hg, hor, hon⟩; have G13 : Hid (Gb Ws w7 w13 b11 (.slice go n2 gcap) gu n2 N2 zs ys p ∧ w13.ownsRow W6.heap.size 3 1 x1 N (ils xs N)) := (by rcases hor with e | rfl; (exact ⟨(G.out.below hb).only hon hg (X0b.out _ e), own_only (own_below X1.out hb) hon (by have h9 := (World.ownsRow.lt X0s.out _ e).2; exact h9)⟩); exact ⟨G.out.below hb, own_below X1.out hb⟩); clear hb hg hor hon))
  go_upto_region 20 with (first
    | (go_at_call 13; (with_reducible refine (markedF (K := 1 + (n : Int)) G13.out.2 (Nat.le_trans L7.out G13.out.1.hx) hN (by omega)).mono ?_); rintro e w14 ⟨rfl, _, gy, hg, hor, hon⟩; have G : Hid (Gb Ws w7 w14 b11 (.slice go n2 gcap) gu n2 N2 zs ys p) := (by rcases hor with e | rfl; (exact G13.out.1.only hon (Nat.le_trans S6.out hg) (X1b.out _ e)); exact G13.out.1); clear hg hor hon))
  clear G13 X0 X1 R9 X0b X1b X0s N9 c0 c1 hx0
  obtain ⟨c0, c1, _, _⟩ := G.out.rb
  obtain ⟨d0, d1, _, _⟩ := R6.out.call G.out.D
  obtain ⟨e0, e1, _, _⟩ := RV.out.call G.out.D
  go_upto_region 22 with (first
    | (go_at_call 10; (with_reducible refine (eqRing_any (il_of_own G.out.oc) (WC.out.below G.out.D) hn2 p).mono ?_); rintro e w15 ⟨rfl, hb⟩; have G : Hid (Gb Ws w7 w15 b11 (.slice go n2 gcap) gu n2 N2 zs ys p) := G.out.below hb; clear hb)
    | (go_at_call 11; (with_reducible refine (eq_yes (il_of_own G.out.ou) (WU.out.below G.out.D) hN2).mono ?_); rintro e w16 ⟨rfl, hb⟩; have G : Hid (Gb Ws w7 w16 b11 (.slice go n2 gcap) gu n2 N2 zs ys p) := G.out.below hb; clear hb))
  clear c0 c1 d0 d1 e0 e1
  obtain ⟨c0, c1, _, _⟩ := G.out.rb
  obtain ⟨d0, d1, _, _⟩ := R6.out.call G.out.D
  obtain ⟨e0, e1, _, _⟩ := RV.out.call G.out.D
  go_upto_region 24 with (first
    | (go_at_call 12; (with_reducible refine (markRing (K := 1) p G.out.oc G.out.hx hn2 (by omega)).mono ?_); rintro e w17 ⟨rfl, hmk, W1', gx', hb, hg, hor, hon⟩; have G : Hid (Gb Ws w7 w17 b11 (.slice go n2 gcap) gu n2 N2 (mkF 1) ys p) := (G.out.below hb).mark0 hon hg hor hmk; clear hmk hb hg hor hon))
  go_upto_region 25 with (first
    | (go_at_call 13; (with_reducible refine (markedF (K := 1 + (n2 : Int)) G.out.ou G.out.hx hN2 (by omega)).mono ?_); rintro e w18 ⟨rfl, hmk, gy', hg, hor, hon⟩; have G : Hid (Gb Ws w7 w18 b11 (.slice go n2 gcap) gu n2 N2 (mkF 1) (mkF (1 + (n2 : Int))) p) := G.out.mark1 hon hg hor hmk; clear hmk hg hor hon))
  clear c0 c1 d0 d1 e0 e1
  obtain ⟨c0, c1, _, _⟩ := G.out.rb
  obtain ⟨d0, d1, _, _⟩ := R6.out.call G.out.D
  obtain ⟨e0, e1, _, _⟩ := RV.out.call G.out.D
  go_upto_region 29 with (first
    | (go_at_call 14; (with_reducible refine (heldRing (K := 1) p G.out.oc hn2 (by omega)).mono ?_); rintro e w19 ⟨rfl, hb⟩; have G : Hid (Gb Ws w7 w19 b11 (.slice go n2 gcap) gu n2 N2 (mkF 1) (mkF (1 + (n2 : Int))) p) := G.out.below hb; clear hb))
  go_upto_region 34 with (first
    | (go_at_call 15; (with_reducible refine (heldF (K := 1 + (n2 : Int)) G.out.ou hN2 (by omega)).mono ?_); rintro e w' ⟨rfl, hw⟩; obtain rfl := hw.symm))
  clear c0 c1 d0 d1 e0 e1
  obtain ⟨c0, c1, _, _⟩ := G.out.rb
  obtain ⟨d0, d1, _, _⟩ := R6.out.call G.out.D
  obtain ⟨e0, e1, _, _⟩ := RV.out.call G.out.D
  go_upto_region 35 with (first
    | (go_at_call 7; (with_reducible refine (toRing_any (VI.out.below G.out.D) hn o).mono ?_); rintro e w20 ⟨t1, rfl, hu, hb⟩; have T1 : Hid (Il w20 t1 n cs) := il_of_own hu; have G : Hid (Gb Ws w7 w20 b11 (.slice go n2 gcap) gu n2 N2 (mkF 1) (mkF (1 + (n2 : Int))) p) := G.out.below hb; clear hu hb)
    | (go_at_call 8; (with_reducible refine (copy_own (LI.out.below G.out.D) hN).mono ?_); rintro e w21 ⟨hb, t2, rfl, hf, hl2⟩; have T2 : Hid (Il w21 t2 N xs) := hf; have T1 : Hid (Il w21 t1 n cs) := T1.out.below hb; have G : Hid (Gb Ws w7 w21 b11 (.slice go n2 gcap) gu n2 N2 (mkF 1) (mkF (1 + (n2 : Int))) p) := G.out.below hb; clear hf hl2 hb)
    | (go_at_call 9; (with_reducible refine (HI.out _ _ _ T1.out T2.out).mono ?_); rintro e w22 ⟨hv, hu2, rfl, hc5, hu5, hap, hb⟩; obtain ⟨hvo, hvc, rfl, hhc, hx1⟩ := il_of_own hc5; have ba := below_one w22 (.cells #[.slice hvo n2 hvc, .int .i64 p] 26); have HC : Hid (Il (w22.alloc (.cells #[.slice hvo n2 hvc, .int .i64 p] 26)) (.slice hvo n2 hvc) n2 zs) := (il_of_own hc5).below ba; have HU : Hid (Il (w22.alloc (.cells #[.slice hvo n2 hvc, .int .i64 p] 26)) hu2 N2 ys) := (il_of_own hu5).below ba; have R17 : Hid (Rg (w22.alloc (.cells #[.slice hvo n2 hvc, .int .i64 p] 26)) w22.heap.size (.slice hvo n2 hvc) (.int .i64 p)) := Rg.new _ _ _ _; have G : Hid (Gb Ws w7 (w22.alloc (.cells #[.slice hvo n2 hvc, .int .i64 p] 26)) b11 (.slice go n2 gcap) gu n2 N2 (mkF 1) (mkF (1 + (n2 : Int))) p) := (G.out.below hb).below ba; clear hc5 hu5 hap hb hx1 ba))
  generalize (w22.alloc (.cells #[.slice hvo n2 hvc, .int .i64 p] 26)) = W22 at *
  generalize w22.heap.size = b17 at *
  clear c0 c1 d0 d1 e0 e1
  obtain ⟨c0, c1, _, _⟩ := G.out.rb
  obtain ⟨d0, d1, _, _⟩ := R6.out.call G.out.D
  obtain ⟨e0, e1, _, _⟩ := RV.out.call G.out.D
  obtain ⟨f0, f1, _, _⟩ := R17.out
  go_upto_region 37 with (first
    | (go_at_call 10; (with_reducible refine (eqRing_any HC.out (WC.out.below G.out.D) hn2 p).mono ?_); rintro e w23 ⟨rfl, hb⟩; have G : Hid (Gb Ws w7 w23 b11 (.slice go n2 gcap) gu n2 N2 (mkF 1) (mkF (1 + (n2 : Int))) p) := G.out.below hb; have HU : Hid (Il w23 hu2 N2 ys) := HU.out.below hb; clear hb)
    | (go_at_call 11; (with_reducible refine (eq_yes HU.out (WU.out.below G.out.D) hN2).mono ?_); rintro e w24 ⟨rfl, hb⟩; have G : Hid (Gb Ws w7 w24 b11 (.slice go n2 gcap) gu n2 N2 (mkF 1) (mkF (1 + (n2 : Int))) p) := G.out.below hb; clear hb))
  clear c0 c1 d0 d1 e0 e1 f0 f1
  obtain ⟨c0, c1, _, _⟩ := G.out.rb
  obtain ⟨d0, d1, _, _⟩ := R6.out.call G.out.D
  obtain ⟨e0, e1, _, _⟩ := RV.out.call G.out.D
  go_wp2_with (first
    | (go_at_call 14; (with_reducible refine (heldRing (K := 1) p G.out.oc hn2 (by omega)).mono ?_); rintro e w25 ⟨rfl, hb⟩; have G : Hid (Gb Ws w7 w25 b11 (.slice go n2 gcap) gu n2 N2 (mkF 1) (mkF (1 + (n2 : Int))) p) := G.out.below hb; clear hb)
    | (go_at_call 15; (with_reducible refine (heldF (K := 1 + (n2 : Int)) G.out.ou hN2 (by omega)).mono ?_); rintro e w' ⟨rfl, hw⟩; obtain rfl := hw.symm))
  go_ret
  exact ⟨rfl, BW.out.trans (G.out.D.mono BW.out.size)⟩

theorem walk_push {w : World} {v lv : Value} {n N : Nat} {cs xs : Nat → Int} (hv : Il w v n cs) (hn : n ≤ 9223372036854775807) (hl : Il w lv N xs) (hN : N ≤ 9223372036854775807) (o : Int) : Calls Try.prog 3 #[.agg #[v, .int .i64 o], lv] w fun e w' => e = .returned (.bool true) ∧ Below w.heap.size w w' := by
  by_cases hlong : 1048576 < n ∨ 1048576 < N
  · obtain ⟨ao, cap, rfl, _, _⟩ := hv
    obtain ⟨lo, lc, rfl, _, _⟩ := hl
    exact push_long o hn hN hlong
  · have h1 : n ≤ 1048576 := by omega
    have h2 : N ≤ 1048576 := by omega
    by_cases g : GPu n N cs xs o
    · obtain ⟨q, rfl⟩ : ∃ q : Nat, o = (q : Int) := ⟨o.toNat, by have := g.1.2.1; omega⟩
      have hn5 := g.1.1.1
      have hN5 := g.2.1
      exact wpush_of hv hl h1 h2 _ n N h1 h2 _ _ _ true (fun W u l hu hl => sPush_good hu hl g) (fun W u l hu hl => iPush_good hu hl g)
    · exact wpush_of hv hl h1 h2 _ 0 0 (by omega) (by omega) (fun _ => 0) (fun _ => 0) 0 false (fun W u l hu hl => sPush_bad hu hl h1 h2 g _ _) (fun W u l hu hl => iPush_bad hu hl h1 h2 g _ _)
end Go.Proofs.Ytphnoghnoacfiaa
