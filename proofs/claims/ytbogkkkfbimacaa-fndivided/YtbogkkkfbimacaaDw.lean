/- FnDivided: the walk. -/
import Derived.Test.YtbogkkkfbimacaaDv
namespace Go.Proofs.Ytbogkkkfbimacaa
open Go.RowKit

set_option maxHeartbeats 8000000 in
theorem walk_divided {w : World} {a : Option Addr} {n cap : Nat} (hr : Row w a n) (hn : n ≤ 9223372036854775807) : Calls Try.prog 6 #[.slice a n cap] w fun e w' => e = .returned (.bool true) ∧ Below w.heap.size w w' := by
  have hbg := fun W => big_any (w := W) a n cap hn
  by_cases h : n ≤ 1048576
  · rw [decide_eq_false (show ¬ (1048576 : Int) < n by omega)] at hbg
    have HR : Hid (Row w a n) := hr
    clear hr
    have hST := rStore
    go_enter Try.func6, Try.ntmps6
    go_upto_region 5 with (first
      | (go_at_call 7; refine (hbg _).mono ?_; rintro e w' ⟨rfl, hw⟩; obtain rfl := hw.symm)
      | (go_at_call 16; refine (gauss_any HR.out h 0 (by omega)).mono ?_; rintro e w1 ⟨bx, by_, rfl, hbx, hby, hb1⟩; have hB1 := bstep hb1 (below_one w1 (.cells #[.float .f64 (fk bx), .float .f64 (fk by_)] 26)); have f0 := Rb.new w1 (fk bx) (fk by_) 26 rfl; have lw1 := hb1.size)
      | (go_at_call 19; refine (iPow_any _ _ _).mono ?_; rintro e w2 ⟨P, rfl, eP, hb2⟩; have hB2 := bstep hB1 hb2; have f2 := f0.call hb2))
    have hP := pow2V (Vfk (x := bx) (by omega)) (Vfk (x := by_) (by omega)) (all5 sml_all hbx hby) eP
    have o1 := V_num V1' (by decide) hP
    have o2 := V_num V2' (by decide) hP
    have o4 := V_num V4' (by decide) hP
    have o8 := V_num V8' (by decide) hP
    clear hP eP hb1 hb2 hB1 f0 hbg
    by_cases g1 : bx * bx + by_ * by_ = 1
    · rw [decide_eq_true g1, Bool.not_true] at o1
      have hgd : good bx by_ := .inl g1
      clear o2 o4 o8 g1
      have f5 : Rb w2 w1.heap.size (fk bx) (fk by_) := f2
      have hB5 := hB2
      generalize hW5 : w2 = W5 at *
      go_upto_region 8 with (first
        | (go_at_call 17; (fail_if_success have := lu); refine (at_any (HR.out.below hB5) h 2 (by omega)).mono ?_; rintro e w' ⟨u, rfl, lu, hw⟩; obtain rfl := hw.symm)
        | (go_at_call 17; refine (at_any (HR.out.below hB5) h 3 (by omega)).mono ?_; rintro e w' ⟨v, rfl, lv, hw⟩; obtain rfl := hw.symm))
      have hB6 := bstep hB5 (below_one W5 (.cells #[.float .f64 (fk ((u : Int) - 128)), .float .f64 (fk ((v : Int) - 100))] 26))
      have m5 := Rb.new W5 (fk ((u : Int) - 128)) (fk ((v : Int) - 100)) 26 rfl
      have m3 := f5.alloc (.cells #[.float .f64 (fk ((u : Int) - 128)), .float .f64 (fk ((v : Int) - 100))] 26)
      generalize (W5.alloc (.cells #[.float .f64 (fk ((u : Int) - 128)), .float .f64 (fk ((v : Int) - 100))] 26)) = W at *
      have l0 : Below W.heap.size W W.drew := (Below.refl _ _).drew
      refine wp_region_any (by kernel_rfl) ?_
      change wpAny _ _ _ _ _ _ _ (World.drew _)
      refine wpI_any (I := fun X => Below W.heap.size W X) _ _ _ _ ?_
      refine wpI_take (i := 0) (v := ?_) rfl (by kernel_rfl) (by kernel_rfl) (by kernel_rfl) (fun _ _ _ h => h) ⟨by rfl, ?_⟩ ?_
      rotate_left
      · intro X hI; obtain ⟨c0, c1, _, _⟩ := m5.below hI m5.lt; go_simp; with_reducible rfl
      refine wpI_take (i := 1) (v := ?_) rfl (by kernel_rfl) (by kernel_rfl) (by kernel_rfl) (fun _ _ _ h => h) ⟨by rfl, ?_⟩ ?_
      rotate_left
      · intro X hI; obtain ⟨c0, c1, _, _⟩ := m3.below hI m3.lt; go_simp; with_reducible rfl
      refine wpI_take (i := 3) (v := ?_) rfl (by kernel_rfl) (by kernel_rfl) (by kernel_rfl) (fun _ _ _ h => h) ⟨by rfl, ?_⟩ ?_
      rotate_left
      · intro X hI; obtain ⟨c0, c1, _, _⟩ := m3.below hI m3.lt; go_simp; with_reducible rfl
      refine wpI_take (i := 5) (v := ?_) rfl (by kernel_rfl) (by kernel_rfl) (by kernel_rfl) (fun _ _ _ h => h) ⟨by rfl, ?_⟩ ?_
      rotate_left
      · intro X hI; obtain ⟨c0, c1, _, _⟩ := m5.below hI m5.lt; go_simp; with_reducible rfl
      refine wpI_only (i := 2) rfl (by kernel_rfl) l0 (by rfl) ?_
      intro K hK
      go_simp
      go_wp2_with (go_at_call 9; refine (iMul_any _ _ _ _ _).mono ?_; rintro e x2 ⟨p1, p2, rfl, ep1, ep2, hb2⟩; have l1 := bstep l0 hb2)
      refine wpI_only (i := 4) rfl (by kernel_rfl) l1 (by rfl) ?_
      intro K hK
      go_simp
      go_wp2_with (go_at_call 22; refine (iDiv_any _ _ _ _ _).mono ?_; rintro e x4 ⟨q1, q2, rfl, eq1, eq2, hb4⟩; have l2 := bstep l1 hb4)
      refine wpI_only (i := 6) rfl (by kernel_rfl) l2 (by rfl) ?_
      intro K hK
      go_simp
      go_wp2_with (go_at_call 14; refine (iEq_any _ _ _ _ _).mono ?_; rintro e x6 ⟨rfl, hb6⟩; have l3 := bstep l2 hb6)
      refine wpI_only (i := 7) rfl (by kernel_rfl) l3 (by rfl) ?_
      intro K hK
      have l4 := l3
      go_simp
      refine hK _ _ ?_
      refine wpI_done l4 (by kernel_rfl) ?_ _
      obtain ⟨z1, z2⟩ := divV hbx hby hgd (by omega) (by omega) ep1 ep2 eq1 eq2
      rw [z1, z2]
      go_wp2
      go_ret
      exact ⟨rfl, bstep hB6 l4⟩
    · rw [decide_eq_false g1, Bool.not_false] at o1
      by_cases g2 : bx * bx + by_ * by_ = 2
      · rw [decide_eq_true g2, Bool.not_true] at o2
        have hgd : good bx by_ := .inr (.inl g2)
        clear o4 o8 g1 g2
        have f5 : Rb w2 w1.heap.size (fk bx) (fk by_) := f2
        have hB5 := hB2
        generalize hW5 : w2 = W5 at *
        go_upto_region 8 with (first
          | (go_at_call 17; (fail_if_success have := lu); refine (at_any (HR.out.below hB5) h 2 (by omega)).mono ?_; rintro e w' ⟨u, rfl, lu, hw⟩; obtain rfl := hw.symm)
          | (go_at_call 17; refine (at_any (HR.out.below hB5) h 3 (by omega)).mono ?_; rintro e w' ⟨v, rfl, lv, hw⟩; obtain rfl := hw.symm))
        have hB6 := bstep hB5 (below_one W5 (.cells #[.float .f64 (fk ((u : Int) - 128)), .float .f64 (fk ((v : Int) - 100))] 26))
        have m5 := Rb.new W5 (fk ((u : Int) - 128)) (fk ((v : Int) - 100)) 26 rfl
        have m3 := f5.alloc (.cells #[.float .f64 (fk ((u : Int) - 128)), .float .f64 (fk ((v : Int) - 100))] 26)
        generalize (W5.alloc (.cells #[.float .f64 (fk ((u : Int) - 128)), .float .f64 (fk ((v : Int) - 100))] 26)) = W at *
        have l0 : Below W.heap.size W W.drew := (Below.refl _ _).drew
        refine wp_region_any (by kernel_rfl) ?_
        change wpAny _ _ _ _ _ _ _ (World.drew _)
        refine wpI_any (I := fun X => Below W.heap.size W X) _ _ _ _ ?_
        refine wpI_take (i := 0) (v := ?_) rfl (by kernel_rfl) (by kernel_rfl) (by kernel_rfl) (fun _ _ _ h => h) ⟨by rfl, ?_⟩ ?_
        rotate_left
        · intro X hI; obtain ⟨c0, c1, _, _⟩ := m5.below hI m5.lt; go_simp; with_reducible rfl
        refine wpI_take (i := 1) (v := ?_) rfl (by kernel_rfl) (by kernel_rfl) (by kernel_rfl) (fun _ _ _ h => h) ⟨by rfl, ?_⟩ ?_
        rotate_left
        · intro X hI; obtain ⟨c0, c1, _, _⟩ := m3.below hI m3.lt; go_simp; with_reducible rfl
        refine wpI_take (i := 3) (v := ?_) rfl (by kernel_rfl) (by kernel_rfl) (by kernel_rfl) (fun _ _ _ h => h) ⟨by rfl, ?_⟩ ?_
        rotate_left
        · intro X hI; obtain ⟨c0, c1, _, _⟩ := m3.below hI m3.lt; go_simp; with_reducible rfl
        refine wpI_take (i := 5) (v := ?_) rfl (by kernel_rfl) (by kernel_rfl) (by kernel_rfl) (fun _ _ _ h => h) ⟨by rfl, ?_⟩ ?_
        rotate_left
        · intro X hI; obtain ⟨c0, c1, _, _⟩ := m5.below hI m5.lt; go_simp; with_reducible rfl
        refine wpI_only (i := 2) rfl (by kernel_rfl) l0 (by rfl) ?_
        intro K hK
        go_simp
        go_wp2_with (go_at_call 9; refine (iMul_any _ _ _ _ _).mono ?_; rintro e x2 ⟨p1, p2, rfl, ep1, ep2, hb2⟩; have l1 := bstep l0 hb2)
        refine wpI_only (i := 4) rfl (by kernel_rfl) l1 (by rfl) ?_
        intro K hK
        go_simp
        go_wp2_with (go_at_call 22; refine (iDiv_any _ _ _ _ _).mono ?_; rintro e x4 ⟨q1, q2, rfl, eq1, eq2, hb4⟩; have l2 := bstep l1 hb4)
        refine wpI_only (i := 6) rfl (by kernel_rfl) l2 (by rfl) ?_
        intro K hK
        go_simp
        go_wp2_with (go_at_call 14; refine (iEq_any _ _ _ _ _).mono ?_; rintro e x6 ⟨rfl, hb6⟩; have l3 := bstep l2 hb6)
        refine wpI_only (i := 7) rfl (by kernel_rfl) l3 (by rfl) ?_
        intro K hK
        have l4 := l3
        go_simp
        refine hK _ _ ?_
        refine wpI_done l4 (by kernel_rfl) ?_ _
        obtain ⟨z1, z2⟩ := divV hbx hby hgd (by omega) (by omega) ep1 ep2 eq1 eq2
        rw [z1, z2]
        go_wp2
        go_ret
        exact ⟨rfl, bstep hB6 l4⟩
      · rw [decide_eq_false g2, Bool.not_false] at o2
        by_cases g4 : bx * bx + by_ * by_ = 4
        · rw [decide_eq_true g4, Bool.not_true] at o4
          have hgd : good bx by_ := .inr (.inr (.inl g4))
          clear o8 g1 g2 g4
          have f5 : Rb w2 w1.heap.size (fk bx) (fk by_) := f2
          have hB5 := hB2
          generalize hW5 : w2 = W5 at *
          go_upto_region 8 with (first
            | (go_at_call 17; (fail_if_success have := lu); refine (at_any (HR.out.below hB5) h 2 (by omega)).mono ?_; rintro e w' ⟨u, rfl, lu, hw⟩; obtain rfl := hw.symm)
            | (go_at_call 17; refine (at_any (HR.out.below hB5) h 3 (by omega)).mono ?_; rintro e w' ⟨v, rfl, lv, hw⟩; obtain rfl := hw.symm))
          have hB6 := bstep hB5 (below_one W5 (.cells #[.float .f64 (fk ((u : Int) - 128)), .float .f64 (fk ((v : Int) - 100))] 26))
          have m5 := Rb.new W5 (fk ((u : Int) - 128)) (fk ((v : Int) - 100)) 26 rfl
          have m3 := f5.alloc (.cells #[.float .f64 (fk ((u : Int) - 128)), .float .f64 (fk ((v : Int) - 100))] 26)
          generalize (W5.alloc (.cells #[.float .f64 (fk ((u : Int) - 128)), .float .f64 (fk ((v : Int) - 100))] 26)) = W at *
          have l0 : Below W.heap.size W W.drew := (Below.refl _ _).drew
          refine wp_region_any (by kernel_rfl) ?_
          change wpAny _ _ _ _ _ _ _ (World.drew _)
          refine wpI_any (I := fun X => Below W.heap.size W X) _ _ _ _ ?_
          refine wpI_take (i := 0) (v := ?_) rfl (by kernel_rfl) (by kernel_rfl) (by kernel_rfl) (fun _ _ _ h => h) ⟨by rfl, ?_⟩ ?_
          rotate_left
          · intro X hI; obtain ⟨c0, c1, _, _⟩ := m5.below hI m5.lt; go_simp; with_reducible rfl
          refine wpI_take (i := 1) (v := ?_) rfl (by kernel_rfl) (by kernel_rfl) (by kernel_rfl) (fun _ _ _ h => h) ⟨by rfl, ?_⟩ ?_
          rotate_left
          · intro X hI; obtain ⟨c0, c1, _, _⟩ := m3.below hI m3.lt; go_simp; with_reducible rfl
          refine wpI_take (i := 3) (v := ?_) rfl (by kernel_rfl) (by kernel_rfl) (by kernel_rfl) (fun _ _ _ h => h) ⟨by rfl, ?_⟩ ?_
          rotate_left
          · intro X hI; obtain ⟨c0, c1, _, _⟩ := m3.below hI m3.lt; go_simp; with_reducible rfl
          refine wpI_take (i := 5) (v := ?_) rfl (by kernel_rfl) (by kernel_rfl) (by kernel_rfl) (fun _ _ _ h => h) ⟨by rfl, ?_⟩ ?_
          rotate_left
          · intro X hI; obtain ⟨c0, c1, _, _⟩ := m5.below hI m5.lt; go_simp; with_reducible rfl
          refine wpI_only (i := 2) rfl (by kernel_rfl) l0 (by rfl) ?_
          intro K hK
          go_simp
          go_wp2_with (go_at_call 9; refine (iMul_any _ _ _ _ _).mono ?_; rintro e x2 ⟨p1, p2, rfl, ep1, ep2, hb2⟩; have l1 := bstep l0 hb2)
          refine wpI_only (i := 4) rfl (by kernel_rfl) l1 (by rfl) ?_
          intro K hK
          go_simp
          go_wp2_with (go_at_call 22; refine (iDiv_any _ _ _ _ _).mono ?_; rintro e x4 ⟨q1, q2, rfl, eq1, eq2, hb4⟩; have l2 := bstep l1 hb4)
          refine wpI_only (i := 6) rfl (by kernel_rfl) l2 (by rfl) ?_
          intro K hK
          go_simp
          go_wp2_with (go_at_call 14; refine (iEq_any _ _ _ _ _).mono ?_; rintro e x6 ⟨rfl, hb6⟩; have l3 := bstep l2 hb6)
          refine wpI_only (i := 7) rfl (by kernel_rfl) l3 (by rfl) ?_
          intro K hK
          have l4 := l3
          go_simp
          refine hK _ _ ?_
          refine wpI_done l4 (by kernel_rfl) ?_ _
          obtain ⟨z1, z2⟩ := divV hbx hby hgd (by omega) (by omega) ep1 ep2 eq1 eq2
          rw [z1, z2]
          go_wp2
          go_ret
          exact ⟨rfl, bstep hB6 l4⟩
        · rw [decide_eq_false g4, Bool.not_false] at o4
          by_cases g8 : bx * bx + by_ * by_ = 8
          · rw [decide_eq_true g8, Bool.not_true] at o8
            have hgd : good bx by_ := .inr (.inr (.inr g8))
            clear g1 g2 g4 g8
            have f5 : Rb w2 w1.heap.size (fk bx) (fk by_) := f2
            have hB5 := hB2
            generalize hW5 : w2 = W5 at *
            go_upto_region 8 with (first
              | (go_at_call 17; (fail_if_success have := lu); refine (at_any (HR.out.below hB5) h 2 (by omega)).mono ?_; rintro e w' ⟨u, rfl, lu, hw⟩; obtain rfl := hw.symm)
              | (go_at_call 17; refine (at_any (HR.out.below hB5) h 3 (by omega)).mono ?_; rintro e w' ⟨v, rfl, lv, hw⟩; obtain rfl := hw.symm))
            have hB6 := bstep hB5 (below_one W5 (.cells #[.float .f64 (fk ((u : Int) - 128)), .float .f64 (fk ((v : Int) - 100))] 26))
            have m5 := Rb.new W5 (fk ((u : Int) - 128)) (fk ((v : Int) - 100)) 26 rfl
            have m3 := f5.alloc (.cells #[.float .f64 (fk ((u : Int) - 128)), .float .f64 (fk ((v : Int) - 100))] 26)
            generalize (W5.alloc (.cells #[.float .f64 (fk ((u : Int) - 128)), .float .f64 (fk ((v : Int) - 100))] 26)) = W at *
            have l0 : Below W.heap.size W W.drew := (Below.refl _ _).drew
            refine wp_region_any (by kernel_rfl) ?_
            change wpAny _ _ _ _ _ _ _ (World.drew _)
            refine wpI_any (I := fun X => Below W.heap.size W X) _ _ _ _ ?_
            refine wpI_take (i := 0) (v := ?_) rfl (by kernel_rfl) (by kernel_rfl) (by kernel_rfl) (fun _ _ _ h => h) ⟨by rfl, ?_⟩ ?_
            rotate_left
            · intro X hI; obtain ⟨c0, c1, _, _⟩ := m5.below hI m5.lt; go_simp; with_reducible rfl
            refine wpI_take (i := 1) (v := ?_) rfl (by kernel_rfl) (by kernel_rfl) (by kernel_rfl) (fun _ _ _ h => h) ⟨by rfl, ?_⟩ ?_
            rotate_left
            · intro X hI; obtain ⟨c0, c1, _, _⟩ := m3.below hI m3.lt; go_simp; with_reducible rfl
            refine wpI_take (i := 3) (v := ?_) rfl (by kernel_rfl) (by kernel_rfl) (by kernel_rfl) (fun _ _ _ h => h) ⟨by rfl, ?_⟩ ?_
            rotate_left
            · intro X hI; obtain ⟨c0, c1, _, _⟩ := m3.below hI m3.lt; go_simp; with_reducible rfl
            refine wpI_take (i := 5) (v := ?_) rfl (by kernel_rfl) (by kernel_rfl) (by kernel_rfl) (fun _ _ _ h => h) ⟨by rfl, ?_⟩ ?_
            rotate_left
            · intro X hI; obtain ⟨c0, c1, _, _⟩ := m5.below hI m5.lt; go_simp; with_reducible rfl
            refine wpI_only (i := 2) rfl (by kernel_rfl) l0 (by rfl) ?_
            intro K hK
            go_simp
            go_wp2_with (go_at_call 9; refine (iMul_any _ _ _ _ _).mono ?_; rintro e x2 ⟨p1, p2, rfl, ep1, ep2, hb2⟩; have l1 := bstep l0 hb2)
            refine wpI_only (i := 4) rfl (by kernel_rfl) l1 (by rfl) ?_
            intro K hK
            go_simp
            go_wp2_with (go_at_call 22; refine (iDiv_any _ _ _ _ _).mono ?_; rintro e x4 ⟨q1, q2, rfl, eq1, eq2, hb4⟩; have l2 := bstep l1 hb4)
            refine wpI_only (i := 6) rfl (by kernel_rfl) l2 (by rfl) ?_
            intro K hK
            go_simp
            go_wp2_with (go_at_call 14; refine (iEq_any _ _ _ _ _).mono ?_; rintro e x6 ⟨rfl, hb6⟩; have l3 := bstep l2 hb6)
            refine wpI_only (i := 7) rfl (by kernel_rfl) l3 (by rfl) ?_
            intro K hK
            have l4 := l3
            go_simp
            refine hK _ _ ?_
            refine wpI_done l4 (by kernel_rfl) ?_ _
            obtain ⟨z1, z2⟩ := divV hbx hby hgd (by omega) (by omega) ep1 ep2 eq1 eq2
            rw [z1, z2]
            go_wp2
            go_ret
            exact ⟨rfl, bstep hB6 l4⟩
          · rw [decide_eq_false g8, Bool.not_false] at o8
            clear g1 g2 g4 g8
            obtain ⟨c0_, c1_, z0_, z1_⟩ := id f2
            have f5 := f2.put 4607182418800017408 4607182418800017408
            have hB5 := (hB2.setCell (p := ⟨w1.heap.size, 0, none⟩) lw1 (.float .f64 4607182418800017408)).setCell (p := ⟨w1.heap.size, 1, none⟩) lw1 (.float .f64 4607182418800017408)
            go_upto_region 8 with (first
              | (go_at_call 17; (fail_if_success have := lu); refine (at_any (HR.out.below hB5) h 2 (by omega)).mono ?_; rintro e w' ⟨u, rfl, lu, hw⟩; obtain rfl := hw.symm)
              | (go_at_call 17; refine (at_any (HR.out.below hB5) h 3 (by omega)).mono ?_; rintro e w' ⟨v, rfl, lv, hw⟩; obtain rfl := hw.symm))
            have hB6 := bstep hB5 (below_one ((w2.setCell ⟨w1.heap.size, 0, none⟩ (.float .f64 4607182418800017408)).setCell ⟨w1.heap.size, 1, none⟩ (.float .f64 4607182418800017408)) (.cells #[.float .f64 (fk ((u : Int) - 128)), .float .f64 (fk ((v : Int) - 100))] 26))
            have m5 := Rb.new ((w2.setCell ⟨w1.heap.size, 0, none⟩ (.float .f64 4607182418800017408)).setCell ⟨w1.heap.size, 1, none⟩ (.float .f64 4607182418800017408)) (fk ((u : Int) - 128)) (fk ((v : Int) - 100)) 26 (g := w2.heap.size) (by simp)
            have m3 := f5.alloc (.cells #[.float .f64 (fk ((u : Int) - 128)), .float .f64 (fk ((v : Int) - 100))] 26)
            generalize (((w2.setCell ⟨w1.heap.size, 0, none⟩ (.float .f64 4607182418800017408)).setCell ⟨w1.heap.size, 1, none⟩ (.float .f64 4607182418800017408)).alloc (.cells #[.float .f64 (fk ((u : Int) - 128)), .float .f64 (fk ((v : Int) - 100))] 26)) = W at *
            have l0 : Below W.heap.size W W.drew := (Below.refl _ _).drew
            refine wp_region_any (by kernel_rfl) ?_
            change wpAny _ _ _ _ _ _ _ (World.drew _)
            refine wpI_any (I := fun X => Below W.heap.size W X) _ _ _ _ ?_
            refine wpI_take (i := 0) (v := ?_) rfl (by kernel_rfl) (by kernel_rfl) (by kernel_rfl) (fun _ _ _ h => h) ⟨by rfl, ?_⟩ ?_
            rotate_left
            · intro X hI; obtain ⟨c0, c1, _, _⟩ := m5.below hI m5.lt; go_simp; with_reducible rfl
            refine wpI_take (i := 1) (v := ?_) rfl (by kernel_rfl) (by kernel_rfl) (by kernel_rfl) (fun _ _ _ h => h) ⟨by rfl, ?_⟩ ?_
            rotate_left
            · intro X hI; obtain ⟨c0, c1, _, _⟩ := m3.below hI m3.lt; go_simp; with_reducible rfl
            refine wpI_take (i := 3) (v := ?_) rfl (by kernel_rfl) (by kernel_rfl) (by kernel_rfl) (fun _ _ _ h => h) ⟨by rfl, ?_⟩ ?_
            rotate_left
            · intro X hI; obtain ⟨c0, c1, _, _⟩ := m3.below hI m3.lt; go_simp; with_reducible rfl
            refine wpI_take (i := 5) (v := ?_) rfl (by kernel_rfl) (by kernel_rfl) (by kernel_rfl) (fun _ _ _ h => h) ⟨by rfl, ?_⟩ ?_
            rotate_left
            · intro X hI; obtain ⟨c0, c1, _, _⟩ := m5.below hI m5.lt; go_simp; with_reducible rfl
            refine wpI_only (i := 2) rfl (by kernel_rfl) l0 (by rfl) ?_
            intro K hK
            go_simp
            go_wp2_with (go_at_call 9; refine (iMul_any _ _ _ _ _).mono ?_; rintro e x2 ⟨p1, p2, rfl, ep1, ep2, hb2⟩; have l1 := bstep l0 hb2)
            refine wpI_only (i := 4) rfl (by kernel_rfl) l1 (by rfl) ?_
            intro K hK
            go_simp
            go_wp2_with (go_at_call 22; refine (iDiv_any _ _ _ _ _).mono ?_; rintro e x4 ⟨q1, q2, rfl, eq1, eq2, hb4⟩; have l2 := bstep l1 hb4)
            refine wpI_only (i := 6) rfl (by kernel_rfl) l2 (by rfl) ?_
            intro K hK
            go_simp
            go_wp2_with (go_at_call 14; refine (iEq_any _ _ _ _ _).mono ?_; rintro e x6 ⟨rfl, hb6⟩; have l3 := bstep l2 hb6)
            refine wpI_only (i := 7) rfl (by kernel_rfl) l3 (by rfl) ?_
            intro K hK
            have l4 := l3
            go_simp
            refine hK _ _ ?_
            refine wpI_done l4 (by kernel_rfl) ?_ _
            obtain ⟨z1, z2⟩ := divV (a := (u : Int) - 128) (c := (v : Int) - 100) (x := 1) (y := 1) (by omega) (by omega) (.inr (.inl rfl)) (by omega) (by omega) (by rw [fk_one]; exact ep1) (by rw [fk_one]; exact ep2) (by rw [fk_one]; exact eq1) (by rw [fk_one]; exact eq2)
            rw [z1, z2]
            go_wp2
            go_ret
            exact ⟨rfl, bstep hB6 l4⟩
  · rw [decide_eq_true (show (1048576 : Int) < n by omega)] at hbg
    clear hr
    go_enter Try.func6, Try.ntmps6
    go_wp2_with (go_at_call 7; refine (hbg _).mono ?_; rintro e w' ⟨rfl, hw⟩; obtain rfl := hw.symm)
    go_ret
    exact ⟨rfl, Below.refl _ _⟩
end Go.Proofs.Ytbogkkkfbimacaa
