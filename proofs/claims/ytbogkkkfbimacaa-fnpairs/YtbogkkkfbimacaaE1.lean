/- Equal on both sides, and the law's walk. -/
import Derived.Test.YtbogkkkfbimacaaP3
import Derived.Deep.Cut
namespace Go.Proofs.Ytbogkkkfbimacaa
open Go.RowKit

/-- Two floats are equal (== says so). -/
abbrev eqb (x y : Nat) : Bool := FloatKind.f64.format.order x y == some .eq

theorem rcEq (t : TypeId) (a b c d : Nat) (w : World) : (binOp .eql t (.complex .f64 a b) (.complex .f64 c d)).run Try.prog w = .ok (.bool (eqb a c && eqb b d)) w := by
  simp [binOp, Op.complexOp, Op.Complex.cmp, Op.floatCmp, asBool]

set_option maxHeartbeats 4000000 in
theorem iEq_any (a b c d : Nat) (w : World) : Calls Try.prog 14 #[Pv a b, Pv c d] w fun e w' => e = .returned (.bool (eqb a c && eqb b d)) ∧ Below w.heap.size w w' := by
  have hE := rcEq
  go_enter Try.func14, Try.ntmps14
  go_upto_region 1 with fail
  have f0 := (Rb.new w a b 26 rfl).alloc (.cells #[.float .f64 c, .float .f64 d] 26)
  have f1 := Rb.new (w.alloc (.cells #[.float .f64 a, .float .f64 b] 26)) c d 26 (g := w.heap.size + 1) (by simp)
  have hW : Below w.heap.size w ((w.alloc (.cells #[.float .f64 a, .float .f64 b] 26)).alloc (.cells #[.float .f64 c, .float .f64 d] 26)) := by
    repeat first | exact Below.refl _ _ | refine Below.alloc ?_ (by simp; try omega) _
  generalize ((w.alloc (.cells #[.float .f64 a, .float .f64 b] 26)).alloc (.cells #[.float .f64 c, .float .f64 d] 26)) = W at *
  have l0 : Below W.heap.size W W.drew := (Below.refl _ _).drew
  refine wp_region_any (by kernel_rfl) ?_
  change wpAny _ _ _ _ _ _ _ (World.drew _)
  refine wpI_any (I := fun X => Below W.heap.size W X) _ _ _ _ ?_
  refine wpI_take (i := 0) (v := ?_) rfl (by kernel_rfl) (by kernel_rfl) (by kernel_rfl) (fun _ _ _ h => h) ⟨by rfl, ?_⟩ ?_
  rotate_left
  · intro X hI; obtain ⟨c0, c1, _, _⟩ := f0.below hI f0.lt; go_simp; with_reducible rfl
  refine wpI_take (i := 2) (v := ?_) rfl (by kernel_rfl) (by kernel_rfl) (by kernel_rfl) (fun _ _ _ h => h) ⟨by rfl, ?_⟩ ?_
  rotate_left
  · intro X hI; obtain ⟨c0, c1, _, _⟩ := f1.below hI f1.lt; go_simp; with_reducible rfl
  refine wpI_only (i := 1) rfl (by kernel_rfl) l0 (by rfl) ?_
  intro K hK
  go_simp
  go_wp2_with (go_at_call 26; refine (toC_any _ _ _).mono ?_; rintro e x1 ⟨rfl, hb1⟩; have l1 := bstep l0 hb1)
  refine wpI_only (i := 3) rfl (by kernel_rfl) l1 (by rfl) ?_
  intro K hK
  go_simp
  go_wp2_with (go_at_call 26; refine (toC_any _ _ _).mono ?_; rintro e x3 ⟨rfl, hb3⟩; have l2 := bstep l1 hb3)
  refine wpI_only (i := 4) rfl (by kernel_rfl) l2 (by rfl) ?_
  intro K hK
  have l3 := l2
  go_simp
  refine hK _ _ ?_
  refine wpI_only (i := 5) rfl (by kernel_rfl) l3 (by rfl) ?_
  intro K hK
  have l4 := l3
  go_simp
  refine hK _ _ ?_
  refine wpI_done l4 (by kernel_rfl) ?_ _
  go_wp2
  go_ret
  exact ⟨rfl, bstep hW l4⟩

end Go.Proofs.Ytbogkkkfbimacaa
