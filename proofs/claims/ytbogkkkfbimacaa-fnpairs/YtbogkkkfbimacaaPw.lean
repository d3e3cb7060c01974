/- FnPairs: the walk, by what the draws and samePair do. -/
import Derived.Test.YtbogkkkfbimacaaPm
import Derived.Test.YtbogkkkfbimacaaC1
import Derived.Deep.Cut
namespace Go.Proofs.Ytbogkkkfbimacaa
open Go.RowKit

/-- A NaN, or below 2^64. -/
def Bd (x : Nat) : Prop := cn x = none ∨ x < 18446744073709551616

theorem bd_cn {x : Nat} {o : Option Nat} (h : cn x = o) (ho : Lt64 o) : Bd x := by
  cases o with
  | none => exact .inl h
  | some b =>
    right
    unfold cn at h
    split at h
    · cases h
    · cases h; exact ho _ rfl

theorem cre_bd (a b c d : Option Nat) : Lt64 (cre a b c d) := cop_lt _ _ _
theorem cim_bd (a b c d : Option Nat) : Lt64 (cim a b c d) := cop_lt _ _ _

theorem ii_eq {u v : Nat} (h1 : cn u = cre (cn 0) (cn 4607182418800017408) (cn 0) (cn 4607182418800017408)) (h2 : cn v = cim (cn 0) (cn 4607182418800017408) (cn 0) (cn 4607182418800017408)) : (eqb u 13830554455654793216 && eqb v 0) = true := by
  have e1 : cre (cn 0) (cn 4607182418800017408) (cn 0) (cn 4607182418800017408) = some 13830554455654793216 := by decide +kernel
  have e2 : cim (cn 0) (cn 4607182418800017408) (cn 0) (cn 4607182418800017408) = some 0 := by decide +kernel
  rw [e1] at h1
  rw [e2] at h2
  have i1 : u = 13830554455654793216 := by
    unfold cn at h1
    split at h1
    · cases h1
    · exact Option.some.inj h1
  have i2 : v = 0 := by
    unfold cn at h2
    split at h2
    · cases h2
    · exact Option.some.inj h2
  rw [i1, i2]
  decide +kernel

theorem sub_eq {x d : Nat} {o : Option Nat} (hx : cn x = o) (hd : cn d = o) (h : (FloatKind.f64.format.order x 0 != some .eq) = false) : eqb d 0 = true := by
  have h' : FloatKind.f64.format.order x 0 = some .eq := by simpa using h
  have hn : (Ieee.double.read x).isNaN = false := by
    cases hh : (Ieee.double.read x).isNaN with
    | false => rfl
    | true =>
      have : FloatKind.f64.format.order x 0 = none := by
        show (Ieee.double.read x).order (Ieee.double.read 0) = none
        cases hr : Ieee.double.read x <;> rw [hr] at hh <;> first | (simp [Ieee.Datum.isNaN] at hh; done) | rfl
      rw [this] at h'; cases h'
  have hc := cn_some hn
  rw [hx] at hc
  rw [hc] at hd
  have : d = x := by
    unfold cn at hd
    split at hd
    · cases hd
    · exact Option.some.inj hd
  rw [this]
  simp [eqb, h']

set_option maxHeartbeats 8000000 in
set_option maxRecDepth 10000 in
theorem walk_pairs_of {w : World} {a0 : Option Addr} {n cap : Nat} (hn : n ≤ 9223372036854775807)
    (hDraw : n ≤ 1048576 → Calls Try.prog 8 #[.slice a0 n cap] w fun e w' => ∃ a b c d, e = .returned (.tuple #[Pv a b, Pv c d]) ∧ Below w.heap.size w w')
    (hSame : ∀ x y u v, cn x = cn u → cn y = cn v → Bd x → Bd y → Bd u → Bd v → ∀ W, Calls Try.prog 10 #[Pv x y, Pv u v] W fun e w' => e = .returned (.bool true) ∧ Below W.heap.size W w') :
    Calls Try.prog 3 #[.slice a0 n cap] w fun e w' => e = .returned (.bool true) ∧ Below w.heap.size w w' := by
  have hbg := fun W => big_any (w := W) a0 n cap hn
  by_cases h : n ≤ 1048576
  · rw [decide_eq_false (show ¬ (1048576 : Int) < n by omega)] at hbg
    have hDr := hDraw h
    have hST := rStore
    have hS := rSub
    go_enter Try.func3, Try.ntmps3
    go_upto_region 5 with (first
      | (go_at_call 7; refine (hbg _).mono ?_; rintro e w' ⟨rfl, hw⟩; obtain rfl := hw.symm)
      | (go_at_call 8; refine hDr.mono ?_; rintro e w1 ⟨a, b, c, d, rfl, hb1⟩)
      | (go_at_call 9; refine (iMul_any _ _ _ _ _).mono ?_; rintro e w2 ⟨p1, p2, rfl, ep1, ep2, hb2⟩))
    have hBW : Below w.heap.size w (w2.alloc (.cells #[.float .f64 p1, .float .f64 p2] 26)) := by
      refine bstep (bstep (bstep hb1 ?_) hb2) (below_one _ _)
      repeat first | exact Below.refl _ _ | refine Below.alloc ?_ (by simp; try omega) _
    have fa : Rb (w2.alloc (.cells #[.float .f64 p1, .float .f64 p2] 26)) w1.heap.size a b := (Rb.call ((Rb.new w1 a b 26 rfl).alloc _) hb2).alloc _
    have fb : Rb (w2.alloc (.cells #[.float .f64 p1, .float .f64 p2] 26)) (w1.heap.size + 1) c d := (Rb.call (Rb.new _ c d 26 (by simp)) hb2).alloc _
    have fp := Rb.new w2 p1 p2 26 rfl
    clear hDraw hDr hbg hb1 hb2
    generalize (w2.alloc (.cells #[.float .f64 p1, .float .f64 p2] 26)) = W at *
    generalize w2.heap.size = G5 at *
    generalize w1.heap.size = G3 at *
    have l0 : Below W.heap.size W W.drew := (Below.refl _ _).drew
    go_cut [42] from 43 (fun s wx => s = .bool false ∧ Below W.heap.size W wx)
    case first =>
      refine wp_region_any (by kernel_rfl) ?_
      change wpAny _ _ _ _ _ _ _ (World.drew _)
      refine wpI_any (I := fun X => Below W.heap.size W X) _ _ _ _ ?_
      refine wpI_take (i := 0) (v := ?_) rfl (by kernel_rfl) (by kernel_rfl) (by kernel_rfl) (fun _ _ _ h => h) ⟨by rfl, ?_⟩ ?_
      rotate_left
      · intro X hI; obtain ⟨c0, c1, _, _⟩ := fp.below hI fp.lt; go_simp; with_reducible rfl
      refine wpI_take (i := 1) (v := ?_) rfl (by kernel_rfl) (by kernel_rfl) (by kernel_rfl) (fun _ _ _ h => h) ⟨by rfl, ?_⟩ ?_
      rotate_left
      · intro X hI; obtain ⟨c0, c1, _, _⟩ := fa.below hI fa.lt; go_simp; with_reducible rfl
      refine wpI_take (i := 2) (v := ?_) rfl (by kernel_rfl) (by kernel_rfl) (by kernel_rfl) (fun _ _ _ h => h) ⟨by rfl, ?_⟩ ?_
      rotate_left
      · intro X hI; obtain ⟨c0, c1, _, _⟩ := fb.below hI fb.lt; go_simp; with_reducible rfl
      refine wpI_only (i := 3) rfl (by kernel_rfl) l0 (by rfl) ?_
      intro K hK
      go_simp
      go_wp2_with (go_at_call 11; refine (sMul_any _ _ _ _ _).mono ?_; rintro e y3 ⟨m1, m2, rfl, em1, em2, hb3⟩; have l1 := bstep l0 hb3)
      refine wpI_only (i := 4) rfl (by kernel_rfl) l1 (by rfl) ?_
      intro K hK
      go_simp
      go_wp2_with (go_at_call 10; refine (hSame p1 p2 m1 m2 (ep1.trans em1.symm) (ep2.trans em2.symm) (bd_cn ep1 (cre_bd _ _ _ _)) (bd_cn ep2 (cim_bd _ _ _ _)) (bd_cn em1 (cre_bd _ _ _ _)) (bd_cn em2 (cim_bd _ _ _ _)) _).mono ?_; rintro e y4 ⟨rfl, hb4⟩; have l2 := bstep l1 hb4)
      refine wpI_take (i := 5) (v := ?_) rfl (by kernel_rfl) (by kernel_rfl) (by kernel_rfl) (fun _ _ _ h => h) ⟨by rfl, ?_⟩ ?_
      rotate_left
      · intro X hI; go_simp; with_reducible rfl
      refine wpI_take (i := 6) (v := ?_) rfl (by kernel_rfl) (by kernel_rfl) (by kernel_rfl) (fun _ _ _ h => h) ⟨by rfl, ?_⟩ ?_
      rotate_left
      · intro X hI; go_simp; with_reducible rfl
      refine wpI_take (i := 7) (v := ?_) rfl (by kernel_rfl) (by kernel_rfl) (by kernel_rfl) (fun _ _ _ h => h) ⟨by rfl, ?_⟩ ?_
      rotate_left
      · intro X hI; obtain ⟨c0, c1, _, _⟩ := fp.below hI fp.lt; go_simp; with_reducible rfl
      refine wpI_take (i := 8) (v := ?_) rfl (by kernel_rfl) (by kernel_rfl) (by kernel_rfl) (fun _ _ _ h => h) ⟨by rfl, ?_⟩ ?_
      rotate_left
      · intro X hI; obtain ⟨c0, c1, _, _⟩ := fb.below hI fb.lt; go_simp; with_reducible rfl
      refine wpI_take (i := 9) (v := ?_) rfl (by kernel_rfl) (by kernel_rfl) (by kernel_rfl) (fun _ _ _ h => h) ⟨by rfl, ?_⟩ ?_
      rotate_left
      · intro X hI; obtain ⟨c0, c1, _, _⟩ := fa.below hI fa.lt; go_simp; with_reducible rfl
      refine wpI_only (i := 10) rfl (by kernel_rfl) l2 (by rfl) ?_
      intro K hK
      go_simp
      go_wp2_with (go_at_call 9; refine (iMul_any _ _ _ _ _).mono ?_; rintro e y10 ⟨o1, o2, rfl, eo1, eo2, hb10⟩; have l3 := bstep l2 hb10)
      refine wpI_only (i := 11) rfl (by kernel_rfl) l3 (by rfl) ?_
      intro K hK
      go_simp
      go_wp2_with (go_at_call 10; refine (hSame p1 p2 o1 o2 (ep1.trans ((cre_comm _ _ _ _).trans eo1.symm)) (ep2.trans ((cim_comm _ _ _ _).trans eo2.symm)) (bd_cn ep1 (cre_bd _ _ _ _)) (bd_cn ep2 (cim_bd _ _ _ _)) (bd_cn eo1 (cre_bd _ _ _ _)) (bd_cn eo2 (cim_bd _ _ _ _)) _).mono ?_; rintro e y11 ⟨rfl, hb11⟩; have l4 := bstep l3 hb11)
      refine wpI_take (i := 12) (v := ?_) rfl (by kernel_rfl) (by kernel_rfl) (by kernel_rfl) (fun _ _ _ h => h) ⟨by rfl, ?_⟩ ?_
      rotate_left
      · intro X hI; go_simp; with_reducible rfl
      refine wpI_take (i := 13) (v := ?_) rfl (by kernel_rfl) (by kernel_rfl) (by kernel_rfl) (fun _ _ _ h => h) ⟨by rfl, ?_⟩ ?_
      rotate_left
      · intro X hI; go_simp; with_reducible rfl
      refine wpI_take (i := 14) (v := ?_) rfl (by kernel_rfl) (by kernel_rfl) (by kernel_rfl) (fun _ _ _ h => h) ⟨by rfl, ?_⟩ ?_
      rotate_left
      · intro X hI; go_simp; with_reducible rfl
      refine wpI_take (i := 15) (v := ?_) rfl (by kernel_rfl) (by kernel_rfl) (by kernel_rfl) (fun _ _ _ h => h) ⟨by rfl, ?_⟩ ?_
      rotate_left
      · intro X hI; obtain ⟨c0, c1, _, _⟩ := fa.below hI fa.lt; go_simp; with_reducible rfl
      refine wpI_take (i := 16) (v := ?_) rfl (by kernel_rfl) (by kernel_rfl) (by kernel_rfl) (fun _ _ _ h => h) ⟨by rfl, ?_⟩ ?_
      rotate_left
      · intro X hI; obtain ⟨c0, c1, _, _⟩ := fb.below hI fb.lt; go_simp; with_reducible rfl
      refine wpI_take (i := 18) (v := ?_) rfl (by kernel_rfl) (by kernel_rfl) (by kernel_rfl) (fun _ _ _ h => h) ⟨by rfl, ?_⟩ ?_
      rotate_left
      · intro X hI; obtain ⟨c0, c1, _, _⟩ := fb.below hI fb.lt; go_simp; with_reducible rfl
      refine wpI_take (i := 19) (v := ?_) rfl (by kernel_rfl) (by kernel_rfl) (by kernel_rfl) (fun _ _ _ h => h) ⟨by rfl, ?_⟩ ?_
      rotate_left
      · intro X hI; obtain ⟨c0, c1, _, _⟩ := fa.below hI fa.lt; go_simp; with_reducible rfl
      refine wpI_only (i := 17) rfl (by kernel_rfl) l4 (by rfl) ?_
      intro K hK
      go_simp
      go_wp2_with (go_at_call 12; refine (iAdd_any _ _ _ _ _).mono ?_; rintro e y17 ⟨s1, s2, rfl, es1, es2, hb17⟩; have l5 := bstep l4 hb17)
      refine wpI_only (i := 20) rfl (by kernel_rfl) l5 (by rfl) ?_
      intro K hK
      go_simp
      go_wp2_with (go_at_call 12; refine (iAdd_any _ _ _ _ _).mono ?_; rintro e y20 ⟨t1, t2, rfl, et1, et2, hb20⟩; have l6 := bstep l5 hb20)
      refine wpI_only (i := 21) rfl (by kernel_rfl) l6 (by rfl) ?_
      intro K hK
      go_simp
      go_wp2_with (go_at_call 10; refine (hSame s1 s2 t1 t2 (es1.trans ((cadd_comm _ _).trans et1.symm)) (es2.trans ((cadd_comm _ _).trans et2.symm)) (bd_cn es1 (cop_lt _ _ _)) (bd_cn es2 (cop_lt _ _ _)) (bd_cn et1 (cop_lt _ _ _)) (bd_cn et2 (cop_lt _ _ _)) _).mono ?_; rintro e y21 ⟨rfl, hb21⟩; have l7 := bstep l6 hb21)
      refine wpI_take (i := 22) (v := ?_) rfl (by kernel_rfl) (by kernel_rfl) (by kernel_rfl) (fun _ _ _ h => h) ⟨by rfl, ?_⟩ ?_
      rotate_left
      · intro X hI; go_simp; with_reducible rfl
      refine wpI_take (i := 23) (v := ?_) rfl (by kernel_rfl) (by kernel_rfl) (by kernel_rfl) (fun _ _ _ h => h) ⟨by rfl, ?_⟩ ?_
      rotate_left
      · intro X hI; go_simp; with_reducible rfl
      refine wpI_done l7 (by kernel_rfl) ?_ _
      go_wp2
      go_meet
      exact ⟨rfl, l7⟩
    case rest =>
      obtain ⟨rfl, k5⟩ := hcut
      have fa5 := fa.call k5
      have fb5 := fb.call k5
      obtain ⟨c0, c1, _, _⟩ := fp.call k5
      have hB5 := bstep hBW k5
      clear fa fb fp hBW l0 k5 hSame
      go_upto_region 8 with (go_at_call 13; refine (iBar_any p1 p2 _).mono ?_; rintro e w7 ⟨rfl, hb7⟩)
      have hB7 := bstep (bstep hB5 hb7) (below_one w7 (.cells #[.float .f64 p1, .float .f64 (ng p2)] 26))
      have fa7 := (fa5.call hb7).alloc (.cells #[.float .f64 p1, .float .f64 (ng p2)] 26)
      have fb7 := (fb5.call hb7).alloc (.cells #[.float .f64 p1, .float .f64 (ng p2)] 26)
      have fq7 := Rb.new w7 p1 (ng p2) 26 rfl
      clear fa5 fb5 hB5 hb7 c0 c1
      generalize (w7.alloc (.cells #[.float .f64 p1, .float .f64 (ng p2)] 26)) = W7 at *
      generalize w7.heap.size = G6 at *
      have l0 : Below W7.heap.size W7 W7.drew := (Below.refl _ _).drew
      go_cut [7] from 45 (fun p wx => ∃ g x y : Nat, p = .pointer (some ⟨g, 0, none⟩) ∧ Rb wx g x y ∧ cn x = cre (cn a) (cn (ng b)) (cn c) (cn (ng d)) ∧ cn y = cim (cn a) (cn (ng b)) (cn c) (cn (ng d)) ∧ Below W7.heap.size W7 wx)
      case first =>
        refine wp_region_any (by kernel_rfl) ?_
        change wpAny _ _ _ _ _ _ _ (World.drew _)
        refine wpI_any (I := fun X => Below W7.heap.size W7 X) _ _ _ _ ?_
        refine wpI_take (i := 0) (v := ?_) rfl (by kernel_rfl) (by kernel_rfl) (by kernel_rfl) (fun _ _ _ h => h) ⟨by rfl, ?_⟩ ?_
        rotate_left
        · intro X hI; obtain ⟨c0, c1, _, _⟩ := fa7.below hI fa7.lt; go_simp; with_reducible rfl
        refine wpI_take (i := 2) (v := ?_) rfl (by kernel_rfl) (by kernel_rfl) (by kernel_rfl) (fun _ _ _ h => h) ⟨by rfl, ?_⟩ ?_
        rotate_left
        · intro X hI; obtain ⟨c0, c1, _, _⟩ := fb7.below hI fb7.lt; go_simp; with_reducible rfl
        refine wpI_two (i := 1) (j := 5) rfl rfl (by kernel_rfl) l0 (by rfl) (by rfl) ?_ ?_
        · intro K hK
          go_simp
          go_wp2_with (go_at_call 13; refine (iBar_any _ _ _).mono ?_; rintro e x1 ⟨rfl, hb1⟩; have l1 := bstep l0 hb1)
          refine wpI_two (i := 3) (j := 5) rfl rfl (by kernel_rfl) l1 (by rfl) (by rfl) ?_ ?_
          · intro K hK
            go_simp
            go_wp2_with (go_at_call 13; refine (iBar_any _ _ _).mono ?_; rintro e x3 ⟨rfl, hb3⟩; have l2 := bstep l1 hb3)
            refine wpI_two (i := 4) (j := 5) rfl rfl (by kernel_rfl) l2 (by rfl) (by rfl) ?_ ?_
            · intro K hK
              go_simp
              go_wp2_with (go_at_call 9; refine (iMul_any _ _ _ _ _).mono ?_; rintro e x4 ⟨x, y, rfl, e1, e2, hb4⟩; have l3 := bstep l2 hb4)
              refine wpI_only (i := 5) rfl (by kernel_rfl) l3 (by rfl) ?_
              intro K hK
              have n4 := Rb.new x4 0 0 26 (g := x4.heap.size) rfl
              have hg := l3.size
              have l4 := l3.alloc l3.size (.cells #[.float .f64 0, .float .f64 0] 26)
              go_simp
              refine hK _ _ ?_
              refine wpI_only (i := 6) rfl (by kernel_rfl) l4 (by rfl) ?_
              intro K hK
              have m5 := Rb.new x4 x y 26 (g := x4.heap.size) rfl
              have l5 := l3.alloc l3.size (.cells #[.float .f64 x, .float .f64 y] 26)
              obtain ⟨c0, c1, z0, z1⟩ := n4
              go_simp
              refine hK _ _ ?_
              refine wpI_done l5 (by kernel_rfl) ?_ _
              go_wp2
              go_meet
              exact ⟨x4.heap.size, _, _, rfl, m5, e1, e2, l5⟩
            · intro K hK
              have n3 := Rb.new x3 0 0 26 (g := x3.heap.size) rfl
              have hg := l2.size
              have l3 := l2.alloc l2.size (.cells #[.float .f64 0, .float .f64 0] 26)
              go_simp
              refine hK _ _ ?_
              refine wpI_only (i := 4) rfl (by kernel_rfl) l3 (by rfl) ?_
              intro K hK
              go_simp
              go_wp2_with (go_at_call 9; refine (iMul_any _ _ _ _ _).mono ?_; rintro e x4 ⟨x, y, rfl, e1, e2, hb4⟩; have l4 := bstep l3 hb4; have n4 := n3.call hb4)
              refine wpI_only (i := 6) rfl (by kernel_rfl) l4 (by rfl) ?_
              intro K hK
              have m5 := n4.put x y
              have l5 := (l4.setCell (p := ⟨x3.heap.size, 0, none⟩) hg (.float .f64 x)).setCell (p := ⟨x3.heap.size, 1, none⟩) hg (.float .f64 y)
              obtain ⟨c0, c1, z0, z1⟩ := n4
              go_simp
              refine hK _ _ ?_
              refine wpI_done l5 (by kernel_rfl) ?_ _
              go_wp2
              go_meet
              exact ⟨x3.heap.size, _, _, rfl, m5, e1, e2, l5⟩
          · intro K hK
            have n2 := Rb.new x1 0 0 26 (g := x1.heap.size) rfl
            have hg := l1.size
            have l2 := l1.alloc l1.size (.cells #[.float .f64 0, .float .f64 0] 26)
            go_simp
            refine hK _ _ ?_
            refine wpI_only (i := 3) rfl (by kernel_rfl) l2 (by rfl) ?_
            intro K hK
            go_simp
            go_wp2_with (go_at_call 13; refine (iBar_any _ _ _).mono ?_; rintro e x3 ⟨rfl, hb3⟩; have l3 := bstep l2 hb3; have n3 := n2.call hb3)
            refine wpI_only (i := 4) rfl (by kernel_rfl) l3 (by rfl) ?_
            intro K hK
            go_simp
            go_wp2_with (go_at_call 9; refine (iMul_any _ _ _ _ _).mono ?_; rintro e x4 ⟨x, y, rfl, e1, e2, hb4⟩; have l4 := bstep l3 hb4; have n4 := n3.call hb4)
            refine wpI_only (i := 6) rfl (by kernel_rfl) l4 (by rfl) ?_
            intro K hK
            have m5 := n4.put x y
            have l5 := (l4.setCell (p := ⟨x1.heap.size, 0, none⟩) hg (.float .f64 x)).setCell (p := ⟨x1.heap.size, 1, none⟩) hg (.float .f64 y)
            obtain ⟨c0, c1, z0, z1⟩ := n4
            go_simp
            refine hK _ _ ?_
            refine wpI_done l5 (by kernel_rfl) ?_ _
            go_wp2
            go_meet
            exact ⟨x1.heap.size, _, _, rfl, m5, e1, e2, l5⟩
        · intro K hK
          have n1 := Rb.new W7.drew 0 0 26 (g := W7.heap.size) rfl
          have hg := l0.size
          have l1 := l0.alloc l0.size (.cells #[.float .f64 0, .float .f64 0] 26)
          go_simp
          refine hK _ _ ?_
          refine wpI_only (i := 1) rfl (by kernel_rfl) l1 (by rfl) ?_
          intro K hK
          go_simp
          go_wp2_with (go_at_call 13; refine (iBar_any _ _ _).mono ?_; rintro e x1 ⟨rfl, hb1⟩; have l2 := bstep l1 hb1; have n2 := n1.call hb1)
          refine wpI_only (i := 3) rfl (by kernel_rfl) l2 (by rfl) ?_
          intro K hK
          go_simp
          go_wp2_with (go_at_call 13; refine (iBar_any _ _ _).mono ?_; rintro e x3 ⟨rfl, hb3⟩; have l3 := bstep l2 hb3; have n3 := n2.call hb3)
          refine wpI_only (i := 4) rfl (by kernel_rfl) l3 (by rfl) ?_
          intro K hK
          go_simp
          go_wp2_with (go_at_call 9; refine (iMul_any _ _ _ _ _).mono ?_; rintro e x4 ⟨x, y, rfl, e1, e2, hb4⟩; have l4 := bstep l3 hb4; have n4 := n3.call hb4)
          refine wpI_only (i := 6) rfl (by kernel_rfl) l4 (by rfl) ?_
          intro K hK
          have m5 := n4.put x y
          have l5 := (l4.setCell (p := ⟨W7.heap.size, 0, none⟩) hg (.float .f64 x)).setCell (p := ⟨W7.heap.size, 1, none⟩) hg (.float .f64 y)
          obtain ⟨c0, c1, z0, z1⟩ := n4
          go_simp
          refine hK _ _ ?_
          refine wpI_done l5 (by kernel_rfl) ?_ _
          go_wp2
          go_meet
          exact ⟨W7.heap.size, _, _, rfl, m5, e1, e2, l5⟩
      case rest =>
        rename_i wd
        obtain ⟨gr, r1, r2, rfl, fr, er1, er2, k8⟩ := hcut
        have fa8 := fa7.call k8
        have hB8 := bstep hB7 k8
        obtain ⟨q0, q1, _, _⟩ := fq7.call k8
        obtain ⟨s0, s1, _, _⟩ := fr
        clear fa7 fb7 fq7 hB7 l0 k8
        have hEq := fun W => iEq_any p1 (ng p2) r1 r2 W
        cases n1 : (Ieee.double.read p1).isNaN with
        | true =>
          have o1 := order_nan n1
          go_upto_region 11 with fail
          obtain ⟨c0, c1, _, _⟩ := id fa8
          go_upto_region 12 with (go_at_call 15; refine (iSub_any _ _ _ _ _).mono ?_; rintro e w9 ⟨d1, d2, rfl, ed1, ed2, hb9⟩)
          have hBA := bstep (bstep hB8 hb9) (below_one w9 (.cells #[.float .f64 d1, .float .f64 d2] 26))
          obtain ⟨a1', a2', _, _⟩ := (fa8.call hb9).alloc (.cells #[.float .f64 d1, .float .f64 d2] 26)
          obtain ⟨e1', e2', _, _⟩ := Rb.new w9 d1 d2 26 rfl
          clear c0 c1 hb9 fa8 hB8
          generalize (w9.alloc (.cells #[.float .f64 d1, .float .f64 d2] 26)) = WA at *
          generalize w9.heap.size = G8 at *
          have ex1 := cn_fres .sub WA a a
          have ex2 := cn_fres .sub (fwor .sub WA a a) b b
          have hfc := fwor_cell
          have hI := fun W => iMul_any 0 4607182418800017408 0 4607182418800017408 W
          cases b1 : (FloatKind.f64.format.order (fres .sub WA a a) 0 != some .eq)
          · cases b2 : (FloatKind.f64.format.order (fres .sub (fwor .sub WA a a) b b) 0 != some .eq)
            · have hE1 := fun W => iEq_any d1 d2 0 0 W
              rw [sub_eq ex1 ed1 b1, sub_eq ex2 ed2 b2] at hE1
              have hF := below_fwor (below_fwor hBA .sub a a) .sub b b
              go_wp2_with (first
                | (go_at_call 14; (fail_if_success have := eu1); refine (hE1 _).mono ?_; rintro e wB ⟨rfl, hbB⟩)
                | (go_at_call 9; refine (hI _).mono ?_; rintro e wC ⟨u1, u2, rfl, eu1, eu2, hbC⟩)
                | (go_at_call 14; refine (iEq_any _ _ _ _ _).mono ?_; rw [ii_eq eu1 eu2]; rintro e wD ⟨rfl, hbD⟩))
              go_ret
              exact ⟨rfl, bstep (bstep (bstep hF hbB) hbC) hbD⟩
            · have hF := below_fwor (below_fwor hBA .sub a a) .sub b b
              go_wp2_with (first
                | (go_at_call 9; refine (hI _).mono ?_; rintro e wC ⟨u1, u2, rfl, eu1, eu2, hbC⟩)
                | (go_at_call 14; refine (iEq_any _ _ _ _ _).mono ?_; rw [ii_eq eu1 eu2]; rintro e wD ⟨rfl, hbD⟩))
              go_ret
              exact ⟨rfl, bstep (bstep hF hbC) hbD⟩
          · have hF := below_fwor hBA .sub a a
            go_wp2_with (first
              | (go_at_call 9; refine (hI _).mono ?_; rintro e wC ⟨u1, u2, rfl, eu1, eu2, hbC⟩)
              | (go_at_call 14; refine (iEq_any _ _ _ _ _).mono ?_; rw [ii_eq eu1 eu2]; rintro e wD ⟨rfl, hbD⟩))
            go_ret
            exact ⟨rfl, bstep (bstep hF hbC) hbD⟩
        | false =>
          have o1 := order_same n1
          cases n2 : (Ieee.double.read p2).isNaN with
          | true =>
            have o2 : FloatKind.f64.format.order (ng p2) (ng p2) = none := order_nan (by rw [read_ng, opposite_nan]; exact n2)
            go_upto_region 11 with fail
            obtain ⟨c0, c1, _, _⟩ := id fa8
            go_upto_region 12 with (go_at_call 15; refine (iSub_any _ _ _ _ _).mono ?_; rintro e w9 ⟨d1, d2, rfl, ed1, ed2, hb9⟩)
            have hBA := bstep (bstep hB8 hb9) (below_one w9 (.cells #[.float .f64 d1, .float .f64 d2] 26))
            obtain ⟨a1', a2', _, _⟩ := (fa8.call hb9).alloc (.cells #[.float .f64 d1, .float .f64 d2] 26)
            obtain ⟨e1', e2', _, _⟩ := Rb.new w9 d1 d2 26 rfl
            clear c0 c1 hb9 fa8 hB8
            generalize (w9.alloc (.cells #[.float .f64 d1, .float .f64 d2] 26)) = WA at *
            generalize w9.heap.size = G8 at *
            have ex1 := cn_fres .sub WA a a
            have ex2 := cn_fres .sub (fwor .sub WA a a) b b
            have hfc := fwor_cell
            have hI := fun W => iMul_any 0 4607182418800017408 0 4607182418800017408 W
            cases b1 : (FloatKind.f64.format.order (fres .sub WA a a) 0 != some .eq)
            · cases b2 : (FloatKind.f64.format.order (fres .sub (fwor .sub WA a a) b b) 0 != some .eq)
              · have hE1 := fun W => iEq_any d1 d2 0 0 W
                rw [sub_eq ex1 ed1 b1, sub_eq ex2 ed2 b2] at hE1
                have hF := below_fwor (below_fwor hBA .sub a a) .sub b b
                go_wp2_with (first
                  | (go_at_call 14; (fail_if_success have := eu1); refine (hE1 _).mono ?_; rintro e wB ⟨rfl, hbB⟩)
                  | (go_at_call 9; refine (hI _).mono ?_; rintro e wC ⟨u1, u2, rfl, eu1, eu2, hbC⟩)
                  | (go_at_call 14; refine (iEq_any _ _ _ _ _).mono ?_; rw [ii_eq eu1 eu2]; rintro e wD ⟨rfl, hbD⟩))
                go_ret
                exact ⟨rfl, bstep (bstep (bstep hF hbB) hbC) hbD⟩
              · have hF := below_fwor (below_fwor hBA .sub a a) .sub b b
                go_wp2_with (first
                  | (go_at_call 9; refine (hI _).mono ?_; rintro e wC ⟨u1, u2, rfl, eu1, eu2, hbC⟩)
                  | (go_at_call 14; refine (iEq_any _ _ _ _ _).mono ?_; rw [ii_eq eu1 eu2]; rintro e wD ⟨rfl, hbD⟩))
                go_ret
                exact ⟨rfl, bstep (bstep hF hbC) hbD⟩
            · have hF := below_fwor hBA .sub a a
              go_wp2_with (first
                | (go_at_call 9; refine (hI _).mono ?_; rintro e wC ⟨u1, u2, rfl, eu1, eu2, hbC⟩)
                | (go_at_call 14; refine (iEq_any _ _ _ _ _).mono ?_; rw [ii_eq eu1 eu2]; rintro e wD ⟨rfl, hbD⟩))
              go_ret
              exact ⟨rfl, bstep (bstep hF hbC) hbD⟩
          | false =>
            have o2 : FloatKind.f64.format.order (ng p2) (ng p2) = some .eq := order_same (by rw [read_ng, opposite_nan]; exact n2)
            rw [bar_eq ep1 ep2 er1 er2 n1 n2] at hEq
            go_upto_region 11 with (go_at_call 14; refine (hEq _).mono ?_; rintro e wt ⟨rfl, hbt⟩; have fa9 := fa8.call hbt; have hB9 := bstep hB8 hbt; clear fa8 hB8; have fa8 := fa9; have hB8 := hB9; clear fa9 hB9 q0 q1 s0 s1)
            obtain ⟨c0, c1, _, _⟩ := id fa8
            go_upto_region 12 with (go_at_call 15; refine (iSub_any _ _ _ _ _).mono ?_; rintro e w9 ⟨d1, d2, rfl, ed1, ed2, hb9⟩)
            have hBA := bstep (bstep hB8 hb9) (below_one w9 (.cells #[.float .f64 d1, .float .f64 d2] 26))
            obtain ⟨a1', a2', _, _⟩ := (fa8.call hb9).alloc (.cells #[.float .f64 d1, .float .f64 d2] 26)
            obtain ⟨e1', e2', _, _⟩ := Rb.new w9 d1 d2 26 rfl
            clear c0 c1 hb9 fa8 hB8
            generalize (w9.alloc (.cells #[.float .f64 d1, .float .f64 d2] 26)) = WA at *
            generalize w9.heap.size = G8 at *
            have ex1 := cn_fres .sub WA a a
            have ex2 := cn_fres .sub (fwor .sub WA a a) b b
            have hfc := fwor_cell
            have hI := fun W => iMul_any 0 4607182418800017408 0 4607182418800017408 W
            cases b1 : (FloatKind.f64.format.order (fres .sub WA a a) 0 != some .eq)
            · cases b2 : (FloatKind.f64.format.order (fres .sub (fwor .sub WA a a) b b) 0 != some .eq)
              · have hE1 := fun W => iEq_any d1 d2 0 0 W
                rw [sub_eq ex1 ed1 b1, sub_eq ex2 ed2 b2] at hE1
                have hF := below_fwor (below_fwor hBA .sub a a) .sub b b
                go_wp2_with (first
                  | (go_at_call 14; (fail_if_success have := eu1); refine (hE1 _).mono ?_; rintro e wB ⟨rfl, hbB⟩)
                  | (go_at_call 9; refine (hI _).mono ?_; rintro e wC ⟨u1, u2, rfl, eu1, eu2, hbC⟩)
                  | (go_at_call 14; refine (iEq_any _ _ _ _ _).mono ?_; rw [ii_eq eu1 eu2]; rintro e wD ⟨rfl, hbD⟩))
                go_ret
                exact ⟨rfl, bstep (bstep (bstep hF hbB) hbC) hbD⟩
              · have hF := below_fwor (below_fwor hBA .sub a a) .sub b b
                go_wp2_with (first
                  | (go_at_call 9; refine (hI _).mono ?_; rintro e wC ⟨u1, u2, rfl, eu1, eu2, hbC⟩)
                  | (go_at_call 14; refine (iEq_any _ _ _ _ _).mono ?_; rw [ii_eq eu1 eu2]; rintro e wD ⟨rfl, hbD⟩))
                go_ret
                exact ⟨rfl, bstep (bstep hF hbC) hbD⟩
            · have hF := below_fwor hBA .sub a a
              go_wp2_with (first
                | (go_at_call 9; refine (hI _).mono ?_; rintro e wC ⟨u1, u2, rfl, eu1, eu2, hbC⟩)
                | (go_at_call 14; refine (iEq_any _ _ _ _ _).mono ?_; rw [ii_eq eu1 eu2]; rintro e wD ⟨rfl, hbD⟩))
              go_ret
              exact ⟨rfl, bstep (bstep hF hbC) hbD⟩
  · rw [decide_eq_true (show (1048576 : Int) < n by omega)] at hbg
    go_enter Try.func3, Try.ntmps3
    go_wp2_with (go_at_call 7; refine (hbg _).mono ?_; rintro e w' ⟨rfl, hw⟩; obtain rfl := hw.symm)
    go_ret
    exact ⟨rfl, Below.refl _ _⟩
end Go.Proofs.Ytbogkkkfbimacaa
