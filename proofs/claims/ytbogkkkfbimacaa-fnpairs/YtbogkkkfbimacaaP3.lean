/- Pairs: the program's difference and product, Bar, Power2, and how pairs are held against each other. -/
import Derived.Test.YtbogkkkfbimacaaP2
namespace Go.Proofs.Ytbogkkkfbimacaa
open Go.RowKit

set_option maxHeartbeats 1000000 in
theorem iSub_any (a b c d : Nat) (w : World) : Calls Try.prog 15 #[Pv a b, Pv c d] w fun e w' => ∃ x y, e = .returned (Pv x y) ∧ cn x = cop .sub (cn a) (cn c) ∧ cn y = cop .sub (cn b) (cn d) ∧ Below w.heap.size w w' := by
  have hA := rcSub
  have hST := rStore
  go_enter Try.func15, Try.ntmps15
  go_wp2
  have hW : Below w.heap.size w (((w.alloc (.cells #[.float .f64 a, .float .f64 b] 26)).alloc (.cells #[.float .f64 c, .float .f64 d] 26)).alloc (.cells #[.float .f64 0, .float .f64 0] 26)) := by
    repeat first | exact Below.refl _ _ | refine Below.alloc ?_ (by simp; try omega) _
  have f0 := ((Rb.new w a b 26 rfl).alloc (.cells #[.float .f64 c, .float .f64 d] 26)).alloc (.cells #[.float .f64 0, .float .f64 0] 26)
  have f1 := (Rb.new (w.alloc (.cells #[.float .f64 a, .float .f64 b] 26)) c d 26 (g := w.heap.size + 1) (by simp)).alloc (.cells #[.float .f64 0, .float .f64 0] 26)
  have f2 := Rb.new ((w.alloc (.cells #[.float .f64 a, .float .f64 b] 26)).alloc (.cells #[.float .f64 c, .float .f64 d] 26)) 0 0 26 (g := w.heap.size + 1 + 1) (by simp)
  have hs : w.heap.size + 2 ≤ (((w.alloc (.cells #[.float .f64 a, .float .f64 b] 26)).alloc (.cells #[.float .f64 c, .float .f64 d] 26)).alloc (.cells #[.float .f64 0, .float .f64 0] 26)).heap.size := by simp
  generalize (((w.alloc (.cells #[.float .f64 a, .float .f64 b] 26)).alloc (.cells #[.float .f64 c, .float .f64 d] 26)).alloc (.cells #[.float .f64 0, .float .f64 0] 26)) = W at *
  have l0 : Below (w.heap.size + 2) W W.drew := (Below.refl _ _).drew
  have g0 := f2.drew
  refine wp_region_any (by kernel_rfl) ?_
  change wpAny _ _ _ _ _ _ _ (World.drew _)
  refine wpI_any (I := fun X => Below (w.heap.size + 2) W X) _ _ _ _ ?_
  refine wpI_take (i := 0) (v := ?_) rfl (by kernel_rfl) (by kernel_rfl) (by kernel_rfl) (fun _ _ _ h => h) ⟨by rfl, ?_⟩ ?_
  rotate_left
  · intro X hI; obtain ⟨c0, c1, _, _⟩ := f0.below hI (by omega); go_simp; with_reducible rfl
  refine wpI_take (i := 2) (v := ?_) rfl (by kernel_rfl) (by kernel_rfl) (by kernel_rfl) (fun _ _ _ h => h) ⟨by rfl, ?_⟩ ?_
  rotate_left
  · intro X hI; obtain ⟨c0, c1, _, _⟩ := f1.below hI (by omega); go_simp; with_reducible rfl
  refine wpI_only (i := 1) rfl (by kernel_rfl) l0 (by rfl) ?_
  intro K hK
  go_simp
  go_wp2_with (go_at_call 26; refine (toC_any _ _ _).mono ?_; rintro e x1 ⟨rfl, hb1⟩; have l1 := bgo l0 hs hb1; have g1 := g0.call hb1)
  refine wpI_only (i := 3) rfl (by kernel_rfl) l1 (by rfl) ?_
  intro K hK
  go_simp
  go_wp2_with (go_at_call 26; refine (toC_any _ _ _).mono ?_; rintro e x2 ⟨rfl, hb2⟩; have l2 := bgo l1 hs hb2; have g2 := g1.call hb2)
  refine wpI_only (i := 4) rfl (by kernel_rfl) l2 (by rfl) ?_
  intro K hK
  go_simp
  have l3 := below_fwor (below_fwor l2 .sub a c) .sub b d
  have g3 := (g2.fwor .sub a c).fwor .sub b d
  have ex := cn_fres .sub x2 a c
  have ey := cn_fres .sub (fwor .sub x2 a c) b d
  generalize fres .sub x2 a c = x at *
  generalize fres .sub (fwor .sub x2 a c) b d = y at *
  refine hK _ _ ?_
  refine wpI_only (i := 5) rfl (by kernel_rfl) l3 (by rfl) ?_
  intro K hK
  go_simp
  go_wp2_with (go_at_call 24; refine (toP_any _ _ _).mono ?_; rintro e x4 ⟨rfl, hb4⟩; have l4 := bgo l3 hs hb4; have g4 := g3.call hb4)
  refine wpI_only (i := 6) rfl (by kernel_rfl) l4 (by rfl) ?_
  intro K hK
  obtain ⟨c0, c1, z0, z1⟩ := g4
  have l5 := (l4.setCell (p := ⟨w.heap.size + 1 + 1, 0, none⟩) (Nat.le_refl _) (.float .f64 x)).setCell (p := ⟨w.heap.size + 1 + 1, 1, none⟩) (Nat.le_refl _) (.float .f64 y)
  go_simp
  refine hK _ _ ?_
  refine wpI_done l5 (by kernel_rfl) ?_ _
  go_wp2
  refine bodyPost_ret (v := Pv x y) (by simp [results, Try.results15, go_sem, c0, c1]) rfl ⟨x, y, rfl, ex, ey, hW.trans (l5.mono (by omega))⟩

set_option maxHeartbeats 1000000 in
theorem iMul_any (a b c d : Nat) (w : World) : Calls Try.prog 9 #[Pv a b, Pv c d] w fun e w' => ∃ x y, e = .returned (Pv x y) ∧ cn x = cre (cn a) (cn b) (cn c) (cn d) ∧ cn y = cim (cn a) (cn b) (cn c) (cn d) ∧ Below w.heap.size w w' := by
  have hST := rStore
  go_enter Try.func9, Try.ntmps9
  go_wp2
  have hW : Below w.heap.size w (((w.alloc (.cells #[.float .f64 a, .float .f64 b] 26)).alloc (.cells #[.float .f64 c, .float .f64 d] 26)).alloc (.cells #[.float .f64 0, .float .f64 0] 26)) := by
    repeat first | exact Below.refl _ _ | refine Below.alloc ?_ (by simp; try omega) _
  have f0 := ((Rb.new w a b 26 rfl).alloc (.cells #[.float .f64 c, .float .f64 d] 26)).alloc (.cells #[.float .f64 0, .float .f64 0] 26)
  have f1 := (Rb.new (w.alloc (.cells #[.float .f64 a, .float .f64 b] 26)) c d 26 (g := w.heap.size + 1) (by simp)).alloc (.cells #[.float .f64 0, .float .f64 0] 26)
  have f2 := Rb.new ((w.alloc (.cells #[.float .f64 a, .float .f64 b] 26)).alloc (.cells #[.float .f64 c, .float .f64 d] 26)) 0 0 26 (g := w.heap.size + 1 + 1) (by simp)
  have hs : w.heap.size + 2 ≤ (((w.alloc (.cells #[.float .f64 a, .float .f64 b] 26)).alloc (.cells #[.float .f64 c, .float .f64 d] 26)).alloc (.cells #[.float .f64 0, .float .f64 0] 26)).heap.size := by simp
  generalize (((w.alloc (.cells #[.float .f64 a, .float .f64 b] 26)).alloc (.cells #[.float .f64 c, .float .f64 d] 26)).alloc (.cells #[.float .f64 0, .float .f64 0] 26)) = W at *
  have l0 : Below (w.heap.size + 2) W W.drew := (Below.refl _ _).drew
  have g0 := f2.drew
  refine wp_region_any (by kernel_rfl) ?_
  change wpAny _ _ _ _ _ _ _ (World.drew _)
  refine wpI_any (I := fun X => Below (w.heap.size + 2) W X) _ _ _ _ ?_
  refine wpI_take (i := 0) (v := ?_) rfl (by kernel_rfl) (by kernel_rfl) (by kernel_rfl) (fun _ _ _ h => h) ⟨by rfl, ?_⟩ ?_
  rotate_left
  · intro X hI; obtain ⟨c0, c1, _, _⟩ := f0.below hI (by omega); go_simp; with_reducible rfl
  refine wpI_take (i := 2) (v := ?_) rfl (by kernel_rfl) (by kernel_rfl) (by kernel_rfl) (fun _ _ _ h => h) ⟨by rfl, ?_⟩ ?_
  rotate_left
  · intro X hI; obtain ⟨c0, c1, _, _⟩ := f1.below hI (by omega); go_simp; with_reducible rfl
  refine wpI_only (i := 1) rfl (by kernel_rfl) l0 (by rfl) ?_
  intro K hK
  go_simp
  go_wp2_with (go_at_call 26; refine (toC_any _ _ _).mono ?_; rintro e x1 ⟨rfl, hb1⟩; have l1 := bgo l0 hs hb1; have g1 := g0.call hb1)
  refine wpI_only (i := 3) rfl (by kernel_rfl) l1 (by rfl) ?_
  intro K hK
  go_simp
  go_wp2_with (go_at_call 26; refine (toC_any _ _ _).mono ?_; rintro e x2 ⟨rfl, hb2⟩; have l2 := bgo l1 hs hb2; have g2 := g1.call hb2)
  refine wpI_only (i := 4) rfl (by kernel_rfl) l2 (by rfl) ?_
  intro K hK
  go_simp
  go_wp2_with (go_at_call 25; refine (times_any _ _ _ _ _).mono ?_; rintro e x3 ⟨x, y, rfl, ex, ey, hb3⟩; have l3 := bgo l2 hs hb3; have g3 := g2.call hb3)
  refine wpI_only (i := 5) rfl (by kernel_rfl) l3 (by rfl) ?_
  intro K hK
  go_simp
  go_wp2_with (go_at_call 24; refine (toP_any _ _ _).mono ?_; rintro e x4 ⟨rfl, hb4⟩; have l4 := bgo l3 hs hb4; have g4 := g3.call hb4)
  refine wpI_only (i := 6) rfl (by kernel_rfl) l4 (by rfl) ?_
  intro K hK
  obtain ⟨c0, c1, z0, z1⟩ := g4
  have l5 := (l4.setCell (p := ⟨w.heap.size + 1 + 1, 0, none⟩) (Nat.le_refl _) (.float .f64 x)).setCell (p := ⟨w.heap.size + 1 + 1, 1, none⟩) (Nat.le_refl _) (.float .f64 y)
  go_simp
  refine hK _ _ ?_
  refine wpI_done l5 (by kernel_rfl) ?_ _
  go_wp2
  refine bodyPost_ret (v := Pv x y) (by simp [results, Try.results9, go_sem, c0, c1]) rfl ⟨x, y, rfl, ex, ey, hW.trans (l5.mono (by omega))⟩

/-- The sign turned. -/
abbrev ng (b : Nat) : Nat := Op.negFloat .f64 b
theorem rNeg (b : Nat) (w : World) : (Op.unary .neg (.float .f64 b)).run Try.prog w = .ok (.float .f64 (ng b)) w := rfl

set_option maxHeartbeats 1000000 in
theorem iBar_any (a b : Nat) (w : World) : Calls Try.prog 13 #[Pv a b] w fun e w' => e = .returned (Pv a (ng b)) ∧ Below w.heap.size w w' := by
  have hST := rStore
  have hN := rNeg
  go_enter Try.func13, Try.ntmps13
  go_wp2
  refine bodyPost_ret (v := Pv a (ng b)) (by simp [results, Try.results13, go_sem]) rfl ⟨rfl, ?_⟩
  repeat first | exact Below.refl _ _ | refine Below.setCell ?_ (by simp; try omega) _ | refine Below.alloc ?_ (by simp; try omega) _

/-- The power of a pair. -/
def cpw (a b : Option Nat) : Option Nat := cop .add (cop .mul a a) (cop .mul b b)

set_option maxHeartbeats 1000000 in
theorem plus_any (a b c : Nat) (w : World) : Calls Try.prog 28 #[.float .f64 a, .float .f64 b, .float .f64 c] w fun e w' => ∃ x, e = .returned (.float .f64 x) ∧ cn x = cop .add (cop .mul (cn a) (cn b)) (cn c) ∧ Below w.heap.size w w' := by
  have hA := rAdd
  have hM := rMul
  go_enter Try.func28, Try.ntmps28
  go_wp2
  go_ret
  refine ⟨_, rfl, ?_, ?_⟩
  · simp only [cn_fres]
  repeat first | exact Below.refl _ _ | apply below_fwor

set_option maxHeartbeats 1000000 in
theorem iPow_any (a b : Nat) (w : World) : Calls Try.prog 19 #[Pv a b] w fun e w' => ∃ x, e = .returned (.float .f64 x) ∧ cn x = cpw (cn a) (cn b) ∧ Below w.heap.size w w' := by
  have hM := rMul
  have hfc := fwor_cell
  have hff := fwor_frozen
  go_enter Try.func19, Try.ntmps19
  go_wp2_with (go_at_call 28; refine (plus_any _ _ _ _).mono ?_; rintro e x1 ⟨x, rfl, ex, hb⟩)
  go_ret
  refine ⟨_, rfl, ?_, ?_⟩
  · rw [ex]; simp only [cn_fres, cpw]
  · refine bstep ?_ hb
    repeat first | exact Below.refl _ _ | apply below_fwor | refine Below.alloc ?_ (by simp; try omega) _

end Go.Proofs.Ytbogkkkfbimacaa
