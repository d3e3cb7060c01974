/- PolyPair: the law's walk. -/
import Derived.Test.YtainkpnkekombaaL1
namespace Go.Proofs.Ytainkpnkekombaa
open Go.RowKit

set_option maxHeartbeats 1000000 in
theorem sz_any {w : World} {v : Value} {n : Nat} {xs ys : Nat → Nat} (hv : Fp w v n xs ys) (hn : n ≤ 9223372036854775807) : Calls Try.prog 5 #[v, .int .i64 1048576] w fun e w' => e = .returned (.int .i64 (if n ≤ 1048576 then 1048576 - (n : Int) else -1)) ∧ w' = w := by
  obtain ⟨ao, cap, rfl, hcap, hc⟩ := hv
  clear hc
  by_cases h : n ≤ 1048576
  · rw [if_pos h]
    go_enter Try.func5, Try.ntmps5
    go_wp2
    go_ret
    exact ⟨rfl, rfl⟩
  · rw [if_neg h]
    go_enter Try.func5, Try.ntmps5
    go_wp2
    go_ret
    exact ⟨rfl, rfl⟩

set_option maxHeartbeats 4000000 in
theorem walk_poly_of {w : World} {v : Value} {n : Nat} {xs ys : Nat → Nat} (x1 x2 : Nat) (hv : Fp w v n xs ys) (hn : n ≤ 9223372036854775807) (Rl : Nat → Nat → Prop) (hR : ∀ x y x' y', Rl x y → Rl x' y' → cn x = cn x' ∧ cn y = cn y')
    (hs : ∀ W u, Fp W u n xs ys → Calls Try.prog 6 #[u, Pv x1 x2] W fun e w' => ∃ x y, e = .returned (Pv x y) ∧ Rl x y ∧ Below W.heap.size W w')
    (hi : ∀ W u, Fp W u n xs ys → Calls Try.prog 9 #[u, Pv x1 x2] W fun e w' => ∃ x y, e = .returned (Pv x y) ∧ Rl x y ∧ Below W.heap.size W w') :
    Calls Try.prog 3 #[v, Pv x1 x2] w fun e w' => e = .returned (.bool true) ∧ Below w.heap.size w w' := by
  have hST := rStore
  have hz := fun W (hb : Below w.heap.size w W) => sz_any (hv.below hb) hn
  have hB0 := below_one w (.cells #[.float .f64 x1, .float .f64 x2] 25)
  by_cases h : n ≤ 1048576
  · rw [if_pos h] at hz
    have FV : Hid (Fp (w.alloc (.cells #[.float .f64 x1, .float .f64 x2] 25)) v n xs ys) := hv.below hB0
    have f0 := Rb.new w x1 x2 25 rfl
    obtain ⟨ao, cap, rfl, hcap, hc⟩ := hv
    clear hc
    go_enter Try.func3, Try.ntmps3
    go_upto_region 5 with (go_at_call 5; refine (hz _ hB0).mono ?_; rintro e w' ⟨rfl, hw⟩; obtain rfl := hw.symm)
    clear hz
    generalize (w.alloc (.cells #[.float .f64 x1, .float .f64 x2] 25)) = W at *
    have l0 : Below W.heap.size W W.drew := (Below.refl _ _).drew
    go_cut [6] from 14 (fun p wx => ∃ g x y : Nat, p = .pointer (some ⟨g, 0, none⟩) ∧ Rb wx g x y ∧ Rl x y ∧ Below W.heap.size W wx)
    case first =>
      refine wp_region_any (by kernel_rfl) ?_
      change wpAny _ _ _ _ _ _ _ (World.drew _)
      refine wpI_any (I := fun X => Below W.heap.size W X) _ _ _ _ ?_
      refine wpI_take (i := 0) (v := ?_) rfl (by kernel_rfl) (by kernel_rfl) (by kernel_rfl) (fun _ _ _ h => h) ⟨by rfl, ?_⟩ ?_
      rotate_left
      · intro X _; go_simp; with_reducible rfl
      refine wpI_take (i := 2) (v := ?_) rfl (by kernel_rfl) (by kernel_rfl) (by kernel_rfl) (fun _ _ _ h => h) ⟨by rfl, ?_⟩ ?_
      rotate_left
      · intro X hI; obtain ⟨c0, c1, _, _⟩ := f0.below hI f0.lt; go_simp; with_reducible rfl
      refine wpI_two (i := 1) (j := 5) rfl rfl (by kernel_rfl) l0 (by rfl) (by rfl) ?_ ?_
      · intro K hK
        go_simp
        go_wp2_with (go_at_call 7; refine (copy_any (FV.out.below (l0)) h).mono ?_; rintro e x1 ⟨hb1, v1, rfl, hv1⟩; have l1 := bstep l0 hb1)
        refine wpI_two (i := 3) (j := 5) rfl rfl (by kernel_rfl) l1 (by rfl) (by rfl) ?_ ?_
        · intro K hK
          go_simp
          go_wp2_with (go_at_call 8; refine (toPair_any _ _ _).mono ?_; rintro e x3 ⟨rfl, hb3⟩; have l2 := bstep l1 hb3)
          refine wpI_two (i := 4) (j := 5) rfl rfl (by kernel_rfl) l2 (by rfl) (by rfl) ?_ ?_
          · intro K hK
            go_simp
            go_wp2_with (go_at_call 6; refine (hs _ _ (hv1.below (bstep (Below.refl _ _) hb3))).mono ?_; rintro e x4 ⟨x, y, rfl, hxy, hb4⟩; have l3 := bstep l2 hb4)
            refine wpI_only (i := 5) rfl (by kernel_rfl) l3 (by rfl) ?_
            intro K hK
            have n4 := Rb.new x4 0 0 27 (g := x4.heap.size) rfl
            have hg := l3.size
            have l4 := l3.alloc l3.size (.cells #[.float .f64 0, .float .f64 0] 27)
            go_simp
            refine hK _ _ ?_
            refine wpI_only (i := 6) rfl (by kernel_rfl) l4 (by rfl) ?_
            intro K hK
            have m5 := Rb.new x4 x y 27 (g := x4.heap.size) rfl
            have l5 := l3.alloc l3.size (.cells #[.float .f64 x, .float .f64 y] 27)
            obtain ⟨c0, c1, z0, z1⟩ := n4
            go_simp
            refine hK _ _ ?_
            refine wpI_done l5 (by kernel_rfl) ?_ _
            go_wp2
            go_meet
            exact ⟨x4.heap.size, _, _, rfl, m5, hxy, l5⟩
          · intro K hK
            have n3 := Rb.new x3 0 0 27 (g := x3.heap.size) rfl
            have hg := l2.size
            have l3 := l2.alloc l2.size (.cells #[.float .f64 0, .float .f64 0] 27)
            go_simp
            refine hK _ _ ?_
            refine wpI_only (i := 4) rfl (by kernel_rfl) l3 (by rfl) ?_
            intro K hK
            go_simp
            go_wp2_with (go_at_call 6; refine (hs _ _ (hv1.below (bstep (bstep (Below.refl _ _) hb3) (below_one _ _)))).mono ?_; rintro e x4 ⟨x, y, rfl, hxy, hb4⟩; have l4 := bstep l3 hb4; have n4 := n3.call hb4)
            refine wpI_only (i := 6) rfl (by kernel_rfl) l4 (by rfl) ?_
            intro K hK
            have m5 := n4.put x y
            have l5 := (l4.setCell (p := ⟨x3.heap.size, 0, none⟩) hg (.float .f64 x)).setCell (p := ⟨x3.heap.size, 1, none⟩) hg (.float .f64 y)
            obtain ⟨c0, c1, z0, z1⟩ := n4
            go_simp
            refine hK _ _ ?_
            refine wpI_done l5 (by kernel_rfl) ?_ _
            go_wp2
            go_meet
            exact ⟨x3.heap.size, _, _, rfl, m5, hxy, l5⟩
        · intro K hK
          have n2 := Rb.new x1 0 0 27 (g := x1.heap.size) rfl
          have hg := l1.size
          have l2 := l1.alloc l1.size (.cells #[.float .f64 0, .float .f64 0] 27)
          go_simp
          refine hK _ _ ?_
          refine wpI_only (i := 3) rfl (by kernel_rfl) l2 (by rfl) ?_
          intro K hK
          go_simp
          go_wp2_with (go_at_call 8; refine (toPair_any _ _ _).mono ?_; rintro e x3 ⟨rfl, hb3⟩; have l3 := bstep l2 hb3; have n3 := n2.call hb3)
          refine wpI_only (i := 4) rfl (by kernel_rfl) l3 (by rfl) ?_
          intro K hK
          go_simp
          go_wp2_with (go_at_call 6; refine (hs _ _ (hv1.below (bstep (bstep (Below.refl _ _) (below_one _ _)) hb3))).mono ?_; rintro e x4 ⟨x, y, rfl, hxy, hb4⟩; have l4 := bstep l3 hb4; have n4 := n3.call hb4)
          refine wpI_only (i := 6) rfl (by kernel_rfl) l4 (by rfl) ?_
          intro K hK
          have m5 := n4.put x y
          have l5 := (l4.setCell (p := ⟨x1.heap.size, 0, none⟩) hg (.float .f64 x)).setCell (p := ⟨x1.heap.size, 1, none⟩) hg (.float .f64 y)
          obtain ⟨c0, c1, z0, z1⟩ := n4
          go_simp
          refine hK _ _ ?_
          refine wpI_done l5 (by kernel_rfl) ?_ _
          go_wp2
          go_meet
          exact ⟨x1.heap.size, _, _, rfl, m5, hxy, l5⟩
      · intro K hK
        have n1 := Rb.new W.drew 0 0 27 (g := W.heap.size) rfl
        have hg := l0.size
        have l1 := l0.alloc l0.size (.cells #[.float .f64 0, .float .f64 0] 27)
        go_simp
        refine hK _ _ ?_
        refine wpI_only (i := 1) rfl (by kernel_rfl) l1 (by rfl) ?_
        intro K hK
        go_simp
        go_wp2_with (go_at_call 7; refine (copy_any (FV.out.below (l1)) h).mono ?_; rintro e x1 ⟨hb1, v1, rfl, hv1⟩; have l2 := bstep l1 hb1; have n2 := n1.call hb1)
        refine wpI_only (i := 3) rfl (by kernel_rfl) l2 (by rfl) ?_
        intro K hK
        go_simp
        go_wp2_with (go_at_call 8; refine (toPair_any _ _ _).mono ?_; rintro e x3 ⟨rfl, hb3⟩; have l3 := bstep l2 hb3; have n3 := n2.call hb3)
        refine wpI_only (i := 4) rfl (by kernel_rfl) l3 (by rfl) ?_
        intro K hK
        go_simp
        go_wp2_with (go_at_call 6; refine (hs _ _ (hv1.below (bstep (Below.refl _ _) hb3))).mono ?_; rintro e x4 ⟨x, y, rfl, hxy, hb4⟩; have l4 := bstep l3 hb4; have n4 := n3.call hb4)
        refine wpI_only (i := 6) rfl (by kernel_rfl) l4 (by rfl) ?_
        intro K hK
        have m5 := n4.put x y
        have l5 := (l4.setCell (p := ⟨W.heap.size, 0, none⟩) hg (.float .f64 x)).setCell (p := ⟨W.heap.size, 1, none⟩) hg (.float .f64 y)
        obtain ⟨c0, c1, z0, z1⟩ := n4
        go_simp
        refine hK _ _ ?_
        refine wpI_done l5 (by kernel_rfl) ?_ _
        go_wp2
        go_meet
        exact ⟨W.heap.size, _, _, rfl, m5, hxy, l5⟩
    case rest =>
      obtain ⟨g1, x, y, rfl, m1, hxy, k1⟩ := hcut
      have f1 := f0.call k1
      have FV1 : Hid (Fp wc _ n xs ys) := FV.out.below k1
      have B1 : Hid _ := bstep hB0 k1
      clear f0 FV k1 hB0
      go_wp2_with (first
        | (go_at_call 7; (fail_if_success have := m3); refine (copy_any FV1.out h).mono ?_; rintro e w2 ⟨hb, v2, rfl, hv2⟩; have FX : Hid (Fp _ _ n xs ys) := hv2; have FV2 : Hid (Fp _ _ n xs ys) := FV1.out.below hb; have B2 : Hid _ := bstep B1.out hb; obtain ⟨c0, c1, z0, z1⟩ := f1.call hb; have m2 := m1.call hb; clear hb hv2)
        | (go_at_call 8; refine (toPair_any _ _ _).mono ?_; rintro e w3 ⟨rfl, hb3⟩; have FX3 : Hid (Fp _ _ n xs ys) := FX.out.below hb3; have FV3 : Hid (Fp _ _ n xs ys) := FV2.out.below hb3; have B3 : Hid _ := bstep B2.out hb3; have m3 := m2.call hb3; clear hb3)
        | (go_at_call 9; refine (hi _ _ FX3.out).mono ?_; rintro e w4 ⟨x', y', rfl, hxy', hb4⟩; have FX4 : Hid (Fp _ _ n xs ys) := (FX3.out.below hb4).below (below_one _ (.cells #[.float .f64 x', .float .f64 y'] 27)); have FV4 : Hid (Fp _ _ n xs ys) := (FV3.out.below hb4).below (below_one _ (.cells #[.float .f64 x', .float .f64 y'] 27)); have B4 : Hid _ := bstep (bstep B3.out hb4) (below_one _ (.cells #[.float .f64 x', .float .f64 y'] 27)); obtain ⟨d0, d1, _, _⟩ := (m3.call hb4).alloc (.cells #[.float .f64 x', .float .f64 y'] 27))
        | (go_at_call 10; refine (eqPair_yes _ _ _ _ _ (hR _ _ _ _ hxy' hxy).1 (hR _ _ _ _ hxy' hxy).2).mono ?_; rintro e w5 ⟨rfl, hb5⟩; have FX5 : Hid (Fp _ _ n xs ys) := FX4.out.below hb5; have FV5 : Hid (Fp _ _ n xs ys) := FV4.out.below hb5; have B5 : Hid _ := bstep B4.out hb5; clear hb5)
        | (go_at_call 7; refine (copy_any FV5.out h).mono ?_; rintro e w6 ⟨hb6, v6, rfl, hv6⟩; have FY : Hid (Fp _ _ n xs ys) := hv6; have FX6 : Hid (Fp _ _ n xs ys) := FX5.out.below hb6; have B6 : Hid _ := bstep B5.out hb6; clear hb6 hv6)
        | (go_at_call 11; refine (eq_yes FX6.out FY.out h (fun k hk => ⟨rfl, rfl⟩)).mono ?_; rintro e w7 ⟨rfl, hb7⟩; have B7 : Hid _ := bstep B6.out hb7; clear hb7))
      go_ret
      exact ⟨rfl, B7.out⟩
  · rw [if_neg h] at hz
    obtain ⟨ao, cap, rfl, hcap, hc⟩ := hv
    clear hc
    go_enter Try.func3, Try.ntmps3
    go_wp2_with (go_at_call 5; refine (hz _ hB0).mono ?_; rintro e w' ⟨rfl, hw⟩; obtain rfl := hw.symm)
    go_ret
    exact ⟨rfl, hB0⟩
end Go.Proofs.Ytainkpnkekombaa
