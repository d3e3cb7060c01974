/- The quotient on both sides. -/
import Derived.Test.YtbogkkkfbimacaaP3
import Derived.Deep.Cut
namespace Go.Proofs.Ytbogkkkfbimacaa
open Go.RowKit

set_option maxHeartbeats 4000000 in
theorem iDiv_any (a b c d : Nat) (w : World) : Calls Try.prog 22 #[Pv a b, Pv c d] w fun e w' => ∃ x y, e = .returned (Pv x y) ∧ cn x = cop .quo (cre (cn a) (cn b) (cn c) (cn (ng d))) (cpw (cn c) (cn d)) ∧ cn y = cop .quo (cim (cn a) (cn b) (cn c) (cn (ng d))) (cpw (cn c) (cn d)) ∧ Below w.heap.size w w' := by
  have hST := rStore
  have hQ := rQuo
  have hfc := fwor_cell
  have hff := fwor_frozen
  go_enter Try.func22, Try.ntmps22
  go_upto_region 2 with (go_at_call 19; refine (iPow_any _ _ _).mono ?_; rintro e W ⟨p, rfl, ep, hb⟩)
  have hW : Below w.heap.size w W := by
    refine bstep ?_ hb
    repeat first | exact Below.refl _ _ | refine Below.alloc ?_ (by simp; try omega) _
  have f0 := (((Rb.new w a b 26 rfl).alloc (.cells #[.float .f64 c, .float .f64 d] 26)).alloc (.cells #[.float .f64 0, .float .f64 0] 26)).call hb
  have f1 := ((Rb.new (w.alloc (.cells #[.float .f64 a, .float .f64 b] 26)) c d 26 (g := w.heap.size + 1) (by simp)).alloc (.cells #[.float .f64 0, .float .f64 0] 26)).call hb
  have f2 := (Rb.new ((w.alloc (.cells #[.float .f64 a, .float .f64 b] 26)).alloc (.cells #[.float .f64 c, .float .f64 d] 26)) 0 0 26 (g := w.heap.size + 1 + 1) (by simp)).call hb
  clear hb
  have l0 : Below W.heap.size W W.drew := (Below.refl _ _).drew
  go_cut [6] from 7 (fun p wx => ∃ g x y : Nat, p = .pointer (some ⟨g, 0, none⟩) ∧ Rb wx g x y ∧ cn x = cre (cn a) (cn b) (cn c) (cn (ng d)) ∧ cn y = cim (cn a) (cn b) (cn c) (cn (ng d)) ∧ Below W.heap.size W wx ∧ W.heap.size ≤ g)
  case first =>
    refine wp_region_any (by kernel_rfl) ?_
    change wpAny _ _ _ _ _ _ _ (World.drew _)
    refine wpI_any (I := fun X => Below W.heap.size W X) _ _ _ _ ?_
    refine wpI_take (i := 0) (v := ?_) rfl (by kernel_rfl) (by kernel_rfl) (by kernel_rfl) (fun _ _ _ h => h) ⟨by rfl, ?_⟩ ?_
    rotate_left
    · intro X hI; obtain ⟨c0, c1, _, _⟩ := f0.below hI f0.lt; go_simp; with_reducible rfl
    refine wpI_take (i := 1) (v := ?_) rfl (by kernel_rfl) (by kernel_rfl) (by kernel_rfl) (fun _ _ _ h => h) ⟨by rfl, ?_⟩ ?_
    rotate_left
    · intro X hI; obtain ⟨c0, c1, _, _⟩ := f1.below hI f1.lt; go_simp; with_reducible rfl
    refine wpI_two (i := 2) (j := 4) rfl rfl (by kernel_rfl) l0 (by rfl) (by rfl) ?_ ?_
    · intro K hK
      go_simp
      go_wp2_with (go_at_call 13; refine (iBar_any _ _ _).mono ?_; rintro e x2 ⟨rfl, hb2⟩; have l1 := bstep l0 hb2)
      refine wpI_two (i := 3) (j := 4) rfl rfl (by kernel_rfl) l1 (by rfl) (by rfl) ?_ ?_
      · intro K hK
        go_simp
        go_wp2_with (go_at_call 9; refine (iMul_any _ _ _ _ _).mono ?_; rintro e x3 ⟨x, y, rfl, e1, e2, hb3⟩; have l2 := bstep l1 hb3)
        refine wpI_only (i := 4) rfl (by kernel_rfl) l2 (by rfl) ?_
        intro K hK
        have n3 := Rb.new x3 0 0 26 (g := x3.heap.size) rfl
        have hg := l2.size
        have l3 := l2.alloc l2.size (.cells #[.float .f64 0, .float .f64 0] 26)
        go_simp
        refine hK _ _ ?_
        refine wpI_only (i := 5) rfl (by kernel_rfl) l3 (by rfl) ?_
        intro K hK
        have m4 := Rb.new x3 x y 26 (g := x3.heap.size) rfl
        have l4 := l2.alloc l2.size (.cells #[.float .f64 x, .float .f64 y] 26)
        obtain ⟨c0, c1, z0, z1⟩ := n3
        go_simp
        refine hK _ _ ?_
        refine wpI_done l4 (by kernel_rfl) ?_ _
        go_wp2
        go_meet
        exact ⟨x3.heap.size, _, _, rfl, m4, e1, e2, l4, hg⟩
      · intro K hK
        have n2 := Rb.new x2 0 0 26 (g := x2.heap.size) rfl
        have hg := l1.size
        have l2 := l1.alloc l1.size (.cells #[.float .f64 0, .float .f64 0] 26)
        go_simp
        refine hK _ _ ?_
        refine wpI_only (i := 3) rfl (by kernel_rfl) l2 (by rfl) ?_
        intro K hK
        go_simp
        go_wp2_with (go_at_call 9; refine (iMul_any _ _ _ _ _).mono ?_; rintro e x3 ⟨x, y, rfl, e1, e2, hb3⟩; have l3 := bstep l2 hb3; have n3 := n2.call hb3)
        refine wpI_only (i := 5) rfl (by kernel_rfl) l3 (by rfl) ?_
        intro K hK
        have m4 := n3.put x y
        have l4 := (l3.setCell (p := ⟨x2.heap.size, 0, none⟩) hg (.float .f64 x)).setCell (p := ⟨x2.heap.size, 1, none⟩) hg (.float .f64 y)
        obtain ⟨c0, c1, z0, z1⟩ := n3
        go_simp
        refine hK _ _ ?_
        refine wpI_done l4 (by kernel_rfl) ?_ _
        go_wp2
        go_meet
        exact ⟨x2.heap.size, _, _, rfl, m4, e1, e2, l4, hg⟩
    · intro K hK
      have n1 := Rb.new W.drew 0 0 26 (g := W.heap.size) rfl
      have hg := l0.size
      have l1 := l0.alloc l0.size (.cells #[.float .f64 0, .float .f64 0] 26)
      go_simp
      refine hK _ _ ?_
      refine wpI_only (i := 2) rfl (by kernel_rfl) l1 (by rfl) ?_
      intro K hK
      go_simp
      go_wp2_with (go_at_call 13; refine (iBar_any _ _ _).mono ?_; rintro e x2 ⟨rfl, hb2⟩; have l2 := bstep l1 hb2; have n2 := n1.call hb2)
      refine wpI_only (i := 3) rfl (by kernel_rfl) l2 (by rfl) ?_
      intro K hK
      go_simp
      go_wp2_with (go_at_call 9; refine (iMul_any _ _ _ _ _).mono ?_; rintro e x3 ⟨x, y, rfl, e1, e2, hb3⟩; have l3 := bstep l2 hb3; have n3 := n2.call hb3)
      refine wpI_only (i := 5) rfl (by kernel_rfl) l3 (by rfl) ?_
      intro K hK
      have m4 := n3.put x y
      have l4 := (l3.setCell (p := ⟨W.heap.size, 0, none⟩) hg (.float .f64 x)).setCell (p := ⟨W.heap.size, 1, none⟩) hg (.float .f64 y)
      obtain ⟨c0, c1, z0, z1⟩ := n3
      go_simp
      refine hK _ _ ?_
      refine wpI_done l4 (by kernel_rfl) ?_ _
      go_wp2
      go_meet
      exact ⟨W.heap.size, _, _, rfl, m4, e1, e2, l4, hg⟩
  case rest =>
    obtain ⟨g, x, y, rfl, m1, ex, ey, k1, hg⟩ := hcut
    have m2 := f2.call k1
    have lt2 := f2.lt
    have n1 : w.heap.size + 1 + 1 ≠ g := by omega
    have n2 : g ≠ w.heap.size + 1 + 1 := by omega
    obtain ⟨c0, c1, _, _⟩ := m1
    obtain ⟨r0, r1, z0, z1⟩ := m2
    clear f0 f1 f2 hg
    go_wp2
    refine bodyPost_ret (v := Pv _ _) (by simp [results, Try.results22, fwor_cell, go_sem, r0, r1]; exact ⟨rfl, rfl⟩) rfl ⟨_, _, rfl, ?_, ?_, ?_⟩
    · rw [cn_fres, ex, ep]
    · rw [cn_fres, ey, ep]
    · refine Below.setCell (Below.setCell ?_ (by simp; try omega) _) (by simp; try omega) _
      repeat apply below_fwor
      exact bstep hW k1

end Go.Proofs.Ytbogkkkfbimacaa
