/- The law's walk: quotients. -/
import Derived.Test.YtipggopnchlpaaaP7
import Derived.Deep.Cut
namespace Go.Proofs.Ytipggopnchlpaaa
open Go.RowKit

set_option maxHeartbeats 4000000 in
theorem walk_div (a b c d : Nat) (w : World) : Calls Try.prog 6 #[Pv a b, Pv c d] w fun e w' => e = .returned (.bool true) ∧ Below w.heap.size w w' := by
  have hST := rStore
  go_enter Try.func6, Try.ntmps6
  go_upto_region 1 with fail
  have f0 := (Rb.new w a b 24 rfl).alloc (.cells #[.float .f64 c, .float .f64 d] 24)
  have f1 := Rb.new (w.alloc (.cells #[.float .f64 a, .float .f64 b] 24)) c d 24 (g := w.heap.size + 1) (by simp)
  have hW : Below w.heap.size w ((w.alloc (.cells #[.float .f64 a, .float .f64 b] 24)).alloc (.cells #[.float .f64 c, .float .f64 d] 24)) := by
    repeat first | exact Below.refl _ _ | refine Below.alloc ?_ (by simp; try omega) _
  generalize ((w.alloc (.cells #[.float .f64 a, .float .f64 b] 24)).alloc (.cells #[.float .f64 c, .float .f64 d] 24)) = W at *
  have l0 : Below W.heap.size W W.drew := (Below.refl _ _).drew
  go_cut [5] from 7 (fun p wx => ∃ g x y : Nat, p = .pointer (some ⟨g, 0, none⟩) ∧ Rb wx g x y ∧ cn x = cop .quo (cre (cn a) (cn b) (cn c) (cn (ng d))) (cpw (cn c) (cn d)) ∧ cn y = cop .quo (cim (cn a) (cn b) (cn c) (cn (ng d))) (cpw (cn c) (cn d)) ∧ Below W.heap.size W wx)
  case first =>
    refine wp_region_any (by kernel_rfl) ?_
    change wpAny _ _ _ _ _ _ _ (World.drew _)
    refine wpI_any (I := fun X => Below W.heap.size W X) _ _ _ _ ?_
    refine wpI_take (i := 0) (v := ?_) rfl (by kernel_rfl) (by kernel_rfl) (by kernel_rfl) (fun _ _ _ h => h) ⟨by rfl, ?_⟩ ?_
    rotate_left
    · intro X hI; obtain ⟨c0, c1, _, _⟩ := f0.below hI f0.lt; go_simp; with_reducible rfl
    refine wpI_take (i := 2) (v := ?_) rfl (by kernel_rfl) (by kernel_rfl) (by kernel_rfl) (fun _ _ _ h => h) ⟨by rfl, ?_⟩ ?_
    rotate_left
    · intro X hI; obtain ⟨c0, c1, _, _⟩ := f1.below hI f1.lt; go_simp; with_reducible rfl
    refine wpI_two (i := 1) (j := 5) rfl rfl (by kernel_rfl) l0 (by rfl) (by rfl) ?_ ?_
    · intro K hK
      go_simp
      go_wp2_with (go_at_call 10; refine (toPair_any _ _ _).mono ?_; rintro e x1 ⟨rfl, hb1⟩; have l1 := bstep l0 hb1)
      refine wpI_two (i := 3) (j := 5) rfl rfl (by kernel_rfl) l1 (by rfl) (by rfl) ?_ ?_
      · intro K hK
        go_simp
        go_wp2_with (go_at_call 10; refine (toPair_any _ _ _).mono ?_; rintro e x3 ⟨rfl, hb3⟩; have l2 := bstep l1 hb3)
        refine wpI_two (i := 4) (j := 5) rfl rfl (by kernel_rfl) l2 (by rfl) (by rfl) ?_ ?_
        · intro K hK
          go_simp
          go_wp2_with (go_at_call 17; refine (sDiv_any _ _ _ _ _).mono ?_; rintro e x4 ⟨x, y, rfl, e1, e2, hb4⟩; have l3 := bstep l2 hb4)
          refine wpI_only (i := 5) rfl (by kernel_rfl) l3 (by rfl) ?_
          intro K hK
          have n4 := Rb.new x4 0 0 25 (g := x4.heap.size) rfl
          have hg := l3.size
          have l4 := l3.alloc l3.size (.cells #[.float .f64 0, .float .f64 0] 25)
          go_simp
          refine hK _ _ ?_
          refine wpI_only (i := 6) rfl (by kernel_rfl) l4 (by rfl) ?_
          intro K hK
          have m5 := Rb.new x4 x y 25 (g := x4.heap.size) rfl
          have l5 := l3.alloc l3.size (.cells #[.float .f64 x, .float .f64 y] 25)
          obtain ⟨c0, c1, z0, z1⟩ := n4
          go_simp
          refine hK _ _ ?_
          refine wpI_done l5 (by kernel_rfl) ?_ _
          go_wp2
          go_meet
          exact ⟨x4.heap.size, _, _, rfl, m5, e1, e2, l5⟩
        · intro K hK
          have n3 := Rb.new x3 0 0 25 (g := x3.heap.size) rfl
          have hg := l2.size
          have l3 := l2.alloc l2.size (.cells #[.float .f64 0, .float .f64 0] 25)
          go_simp
          refine hK _ _ ?_
          refine wpI_only (i := 4) rfl (by kernel_rfl) l3 (by rfl) ?_
          intro K hK
          go_simp
          go_wp2_with (go_at_call 17; refine (sDiv_any _ _ _ _ _).mono ?_; rintro e x4 ⟨x, y, rfl, e1, e2, hb4⟩; have l4 := bstep l3 hb4; have n4 := n3.call hb4)
          refine wpI_only (i := 6) rfl (by kernel_rfl) l4 (by rfl) ?_
          intro K hK
          have m5 := n4.put x y
          have l5 := (l4.setCell (p := ⟨x3.heap.size, 0, none⟩) hg (.float .f64 x)).setCell (p := ⟨x3.heap.size, 1, none⟩) hg (.float .f64 y)
          obtain ⟨c0, c1, z0, z1⟩ := n4
          go_simp
          refine hK _ _ ?_
          refine wpI_done l5 (by kernel_rfl) ?_ _
          go_wp2
          go_meet
          exact ⟨x3.heap.size, _, _, rfl, m5, e1, e2, l5⟩
      · intro K hK
        have n2 := Rb.new x1 0 0 25 (g := x1.heap.size) rfl
        have hg := l1.size
        have l2 := l1.alloc l1.size (.cells #[.float .f64 0, .float .f64 0] 25)
        go_simp
        refine hK _ _ ?_
        refine wpI_only (i := 3) rfl (by kernel_rfl) l2 (by rfl) ?_
        intro K hK
        go_simp
        go_wp2_with (go_at_call 10; refine (toPair_any _ _ _).mono ?_; rintro e x3 ⟨rfl, hb3⟩; have l3 := bstep l2 hb3; have n3 := n2.call hb3)
        refine wpI_only (i := 4) rfl (by kernel_rfl) l3 (by rfl) ?_
        intro K hK
        go_simp
        go_wp2_with (go_at_call 17; refine (sDiv_any _ _ _ _ _).mono ?_; rintro e x4 ⟨x, y, rfl, e1, e2, hb4⟩; have l4 := bstep l3 hb4; have n4 := n3.call hb4)
        refine wpI_only (i := 6) rfl (by kernel_rfl) l4 (by rfl) ?_
        intro K hK
        have m5 := n4.put x y
        have l5 := (l4.setCell (p := ⟨x1.heap.size, 0, none⟩) hg (.float .f64 x)).setCell (p := ⟨x1.heap.size, 1, none⟩) hg (.float .f64 y)
        obtain ⟨c0, c1, z0, z1⟩ := n4
        go_simp
        refine hK _ _ ?_
        refine wpI_done l5 (by kernel_rfl) ?_ _
        go_wp2
        go_meet
        exact ⟨x1.heap.size, _, _, rfl, m5, e1, e2, l5⟩
    · intro K hK
      have n1 := Rb.new W.drew 0 0 25 (g := W.heap.size) rfl
      have hg := l0.size
      have l1 := l0.alloc l0.size (.cells #[.float .f64 0, .float .f64 0] 25)
      go_simp
      refine hK _ _ ?_
      refine wpI_only (i := 1) rfl (by kernel_rfl) l1 (by rfl) ?_
      intro K hK
      go_simp
      go_wp2_with (go_at_call 10; refine (toPair_any _ _ _).mono ?_; rintro e x1 ⟨rfl, hb1⟩; have l2 := bstep l1 hb1; have n2 := n1.call hb1)
      refine wpI_only (i := 3) rfl (by kernel_rfl) l2 (by rfl) ?_
      intro K hK
      go_simp
      go_wp2_with (go_at_call 10; refine (toPair_any _ _ _).mono ?_; rintro e x3 ⟨rfl, hb3⟩; have l3 := bstep l2 hb3; have n3 := n2.call hb3)
      refine wpI_only (i := 4) rfl (by kernel_rfl) l3 (by rfl) ?_
      intro K hK
      go_simp
      go_wp2_with (go_at_call 17; refine (sDiv_any _ _ _ _ _).mono ?_; rintro e x4 ⟨x, y, rfl, e1, e2, hb4⟩; have l4 := bstep l3 hb4; have n4 := n3.call hb4)
      refine wpI_only (i := 6) rfl (by kernel_rfl) l4 (by rfl) ?_
      intro K hK
      have m5 := n4.put x y
      have l5 := (l4.setCell (p := ⟨W.heap.size, 0, none⟩) hg (.float .f64 x)).setCell (p := ⟨W.heap.size, 1, none⟩) hg (.float .f64 y)
      obtain ⟨c0, c1, z0, z1⟩ := n4
      go_simp
      refine hK _ _ ?_
      refine wpI_done l5 (by kernel_rfl) ?_ _
      go_wp2
      go_meet
      exact ⟨W.heap.size, _, _, rfl, m5, e1, e2, l5⟩
  case rest =>
    obtain ⟨g1, x1, y1, rfl, m1, ex1, ey1, k1⟩ := hcut
    have f0' := f0.call k1
    have f1' := f1.call k1
    clear l0
    have l0 : Below wc.heap.size wc wc.drew := (Below.refl _ _).drew
    go_upto_region 2 with fail
    go_cut [6] from 7 (fun p wx => ∃ g x y : Nat, p = .pointer (some ⟨g, 0, none⟩) ∧ Rb wx g x y ∧ cn x = cop .quo (cre (cn a) (cn b) (cn c) (cn (ng d))) (cpw (cn c) (cn d)) ∧ cn y = cop .quo (cim (cn a) (cn b) (cn c) (cn (ng d))) (cpw (cn c) (cn d)) ∧ Below wc.heap.size wc wx)
    case first =>
      refine wp_region_any (by kernel_rfl) ?_
      change wpAny _ _ _ _ _ _ _ (World.drew _)
      refine wpI_any (I := fun X => Below wc.heap.size wc X) _ _ _ _ ?_
      refine wpI_take (i := 0) (v := ?_) rfl (by kernel_rfl) (by kernel_rfl) (by kernel_rfl) (fun _ _ _ h => h) ⟨by rfl, ?_⟩ ?_
      rotate_left
      · intro X hI; obtain ⟨c0, c1, _, _⟩ := f0'.below hI f0'.lt; go_simp; with_reducible rfl
      refine wpI_take (i := 2) (v := ?_) rfl (by kernel_rfl) (by kernel_rfl) (by kernel_rfl) (fun _ _ _ h => h) ⟨by rfl, ?_⟩ ?_
      rotate_left
      · intro X hI; obtain ⟨c0, c1, _, _⟩ := f1'.below hI f1'.lt; go_simp; with_reducible rfl
      refine wpI_two (i := 1) (j := 5) rfl rfl (by kernel_rfl) l0 (by rfl) (by rfl) ?_ ?_
      · intro K hK
        go_simp
        go_wp2_with (go_at_call 10; refine (toPair_any _ _ _).mono ?_; rintro e x1 ⟨rfl, hb1⟩; have l1 := bstep l0 hb1)
        refine wpI_two (i := 3) (j := 5) rfl rfl (by kernel_rfl) l1 (by rfl) (by rfl) ?_ ?_
        · intro K hK
          go_simp
          go_wp2_with (go_at_call 10; refine (toPair_any _ _ _).mono ?_; rintro e x3 ⟨rfl, hb3⟩; have l2 := bstep l1 hb3)
          refine wpI_two (i := 4) (j := 5) rfl rfl (by kernel_rfl) l2 (by rfl) (by rfl) ?_ ?_
          · intro K hK
            go_simp
            go_wp2_with (go_at_call 18; refine (iDiv_any _ _ _ _ _).mono ?_; rintro e x4 ⟨x, y, rfl, e1, e2, hb4⟩; have l3 := bstep l2 hb4)
            refine wpI_only (i := 5) rfl (by kernel_rfl) l3 (by rfl) ?_
            intro K hK
            have n4 := Rb.new x4 0 0 25 (g := x4.heap.size) rfl
            have hg := l3.size
            have l4 := l3.alloc l3.size (.cells #[.float .f64 0, .float .f64 0] 25)
            go_simp
            refine hK _ _ ?_
            refine wpI_only (i := 6) rfl (by kernel_rfl) l4 (by rfl) ?_
            intro K hK
            have m5 := Rb.new x4 x y 25 (g := x4.heap.size) rfl
            have l5 := l3.alloc l3.size (.cells #[.float .f64 x, .float .f64 y] 25)
            obtain ⟨c0, c1, z0, z1⟩ := n4
            go_simp
            refine hK _ _ ?_
            refine wpI_done l5 (by kernel_rfl) ?_ _
            go_wp2
            go_meet
            exact ⟨x4.heap.size, _, _, rfl, m5, e1, e2, l5⟩
          · intro K hK
            have n3 := Rb.new x3 0 0 25 (g := x3.heap.size) rfl
            have hg := l2.size
            have l3 := l2.alloc l2.size (.cells #[.float .f64 0, .float .f64 0] 25)
            go_simp
            refine hK _ _ ?_
            refine wpI_only (i := 4) rfl (by kernel_rfl) l3 (by rfl) ?_
            intro K hK
            go_simp
            go_wp2_with (go_at_call 18; refine (iDiv_any _ _ _ _ _).mono ?_; rintro e x4 ⟨x, y, rfl, e1, e2, hb4⟩; have l4 := bstep l3 hb4; have n4 := n3.call hb4)
            refine wpI_only (i := 6) rfl (by kernel_rfl) l4 (by rfl) ?_
            intro K hK
            have m5 := n4.put x y
            have l5 := (l4.setCell (p := ⟨x3.heap.size, 0, none⟩) hg (.float .f64 x)).setCell (p := ⟨x3.heap.size, 1, none⟩) hg (.float .f64 y)
            obtain ⟨c0, c1, z0, z1⟩ := n4
            go_simp
            refine hK _ _ ?_
            refine wpI_done l5 (by kernel_rfl) ?_ _
            go_wp2
            go_meet
            exact ⟨x3.heap.size, _, _, rfl, m5, e1, e2, l5⟩
        · intro K hK
          have n2 := Rb.new x1 0 0 25 (g := x1.heap.size) rfl
          have hg := l1.size
          have l2 := l1.alloc l1.size (.cells #[.float .f64 0, .float .f64 0] 25)
          go_simp
          refine hK _ _ ?_
          refine wpI_only (i := 3) rfl (by kernel_rfl) l2 (by rfl) ?_
          intro K hK
          go_simp
          go_wp2_with (go_at_call 10; refine (toPair_any _ _ _).mono ?_; rintro e x3 ⟨rfl, hb3⟩; have l3 := bstep l2 hb3; have n3 := n2.call hb3)
          refine wpI_only (i := 4) rfl (by kernel_rfl) l3 (by rfl) ?_
          intro K hK
          go_simp
          go_wp2_with (go_at_call 18; refine (iDiv_any _ _ _ _ _).mono ?_; rintro e x4 ⟨x, y, rfl, e1, e2, hb4⟩; have l4 := bstep l3 hb4; have n4 := n3.call hb4)
          refine wpI_only (i := 6) rfl (by kernel_rfl) l4 (by rfl) ?_
          intro K hK
          have m5 := n4.put x y
          have l5 := (l4.setCell (p := ⟨x1.heap.size, 0, none⟩) hg (.float .f64 x)).setCell (p := ⟨x1.heap.size, 1, none⟩) hg (.float .f64 y)
          obtain ⟨c0, c1, z0, z1⟩ := n4
          go_simp
          refine hK _ _ ?_
          refine wpI_done l5 (by kernel_rfl) ?_ _
          go_wp2
          go_meet
          exact ⟨x1.heap.size, _, _, rfl, m5, e1, e2, l5⟩
      · intro K hK
        have n1 := Rb.new wc.drew 0 0 25 (g := wc.heap.size) rfl
        have hg := l0.size
        have l1 := l0.alloc l0.size (.cells #[.float .f64 0, .float .f64 0] 25)
        go_simp
        refine hK _ _ ?_
        refine wpI_only (i := 1) rfl (by kernel_rfl) l1 (by rfl) ?_
        intro K hK
        go_simp
        go_wp2_with (go_at_call 10; refine (toPair_any _ _ _).mono ?_; rintro e x1 ⟨rfl, hb1⟩; have l2 := bstep l1 hb1; have n2 := n1.call hb1)
        refine wpI_only (i := 3) rfl (by kernel_rfl) l2 (by rfl) ?_
        intro K hK
        go_simp
        go_wp2_with (go_at_call 10; refine (toPair_any _ _ _).mono ?_; rintro e x3 ⟨rfl, hb3⟩; have l3 := bstep l2 hb3; have n3 := n2.call hb3)
        refine wpI_only (i := 4) rfl (by kernel_rfl) l3 (by rfl) ?_
        intro K hK
        go_simp
        go_wp2_with (go_at_call 18; refine (iDiv_any _ _ _ _ _).mono ?_; rintro e x4 ⟨x, y, rfl, e1, e2, hb4⟩; have l4 := bstep l3 hb4; have n4 := n3.call hb4)
        refine wpI_only (i := 6) rfl (by kernel_rfl) l4 (by rfl) ?_
        intro K hK
        have m5 := n4.put x y
        have l5 := (l4.setCell (p := ⟨wc.heap.size, 0, none⟩) hg (.float .f64 x)).setCell (p := ⟨wc.heap.size, 1, none⟩) hg (.float .f64 y)
        obtain ⟨c0, c1, z0, z1⟩ := n4
        go_simp
        refine hK _ _ ?_
        refine wpI_done l5 (by kernel_rfl) ?_ _
        go_wp2
        go_meet
        exact ⟨wc.heap.size, _, _, rfl, m5, e1, e2, l5⟩
    case rest =>
      rename_i wd
      obtain ⟨g2, x2, y2, rfl, m2, ex2, ey2, k2⟩ := hcut
      obtain ⟨c0, c1, _, _⟩ := m1.call k2
      obtain ⟨d0, d1, _, _⟩ := m2
      have hq := fun W => eqPair_yes x2 y2 x1 y1 W (ex2.trans ex1.symm) (ey2.trans ey1.symm)
      go_wp2_with (go_at_call 12; refine (hq _).mono ?_; rintro e w5 ⟨rfl, hb5⟩)
      go_ret
      exact ⟨rfl, bstep (bstep (bstep hW k1) k2) hb5⟩
end Go.Proofs.Ytipggopnchlpaaa
