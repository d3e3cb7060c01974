/- Pairs in memory, and the program's sum. -/
import Derived.Test.YtbogkkkfbimacaaP1
import Derived.Test.YtbogkkkfbimacaaI1
import Derived.Deep.RegionWith
namespace Go.Proofs.Ytbogkkkfbimacaa
open Go.RowKit

/-- A pair lies in a block of its own. -/
structure Rb (W : World) (g x y : Nat) : Prop where
  c0 : W.cell? ⟨g, 0, none⟩ = some (.float .f64 x)
  c1 : W.cell? ⟨g, 1, none⟩ = some (.float .f64 y)
  z0 : W.frozen? ⟨g, 0, none⟩ = false
  z1 : W.frozen? ⟨g, 1, none⟩ = false

theorem Rb.lt {W : World} {g x y : Nat} (h : Rb W g x y) : g < W.heap.size := World.block_lt_of_cell? W _ h.c0

theorem Rb.below {W W' : World} {g x y B : Nat} (h : Rb W g x y) (hb : Below B W W') (hg : g < B) : Rb W' g x y :=
  ⟨(hb.cell hg).trans h.c0, (hb.cell hg).trans h.c1, (hb.frozen hg).trans h.z0, (hb.frozen hg).trans h.z1⟩

theorem Rb.call {W W' : World} {g x y : Nat} (h : Rb W g x y) (hb : Below W.heap.size W W') : Rb W' g x y := h.below hb h.lt

theorem Rb.fwor {W : World} {g x y : Nat} (h : Rb W g x y) (op : BinOp) (a b : Nat) : Rb (fwor op W a b) g x y := h.call (below_fwor (Below.refl _ _) _ _ _)

theorem Rb.drew {W : World} {g x y : Nat} (h : Rb W g x y) : Rb W.drew g x y := h.call (Below.refl _ _).drew

theorem Rb.alloc {W : World} {g x y : Nat} (h : Rb W g x y) (o : Obj) : Rb (W.alloc o) g x y := h.call (below_one _ _)

theorem Rb.new (w : World) (x y : Nat) (t : TypeId) {g : Nat} (hg : w.heap.size = g) : Rb (w.alloc (.cells #[.float .f64 x, .float .f64 y] t)) g x y := by
  subst hg
  exact ⟨by simp, by simp, by simp, by simp⟩

theorem Rb.put {W : World} {g x y : Nat} (h : Rb W g x y) (x' y' : Nat) : Rb ((W.setCell ⟨g, 0, none⟩ (.float .f64 x')).setCell ⟨g, 1, none⟩ (.float .f64 y')) g x' y' := by
  obtain ⟨c0, c1, z0, z1⟩ := h
  exact ⟨by simp [go_sem, c0], by simp [go_sem, c1], by simp [go_sem, z0], by simp [go_sem, z1]⟩

theorem Rb.other {W : World} {g x y : Nat} (h : Rb W g x y) {p : Addr} (hp : p.block ≠ g) (v : Value) : Rb (W.setCell p v) g x y := by
  have e : (W.setCell p v).heap[g]? = W.heap[g]? := Below.heap_setCell _ _ _ _ (Ne.symm hp)
  exact ⟨(World.cell?_of_block (w := W) e).trans h.c0, (World.cell?_of_block (w := W) e).trans h.c1, (World.frozen?_of_block (w := W) e).trans h.z0, (World.frozen?_of_block (w := W) e).trans h.z1⟩

theorem bgo {B : Nat} {w w1 w2 : World} (h1 : Below B w w1) (hB : B ≤ w.heap.size) (h2 : Below w1.heap.size w1 w2) : Below B w w2 := h1.trans (h2.mono (Nat.le_trans hB h1.size))

set_option maxHeartbeats 1000000 in
theorem iAdd_any (a b c d : Nat) (w : World) : Calls Try.prog 12 #[Pv a b, Pv c d] w fun e w' => ∃ x y, e = .returned (Pv x y) ∧ cn x = cop .add (cn a) (cn c) ∧ cn y = cop .add (cn b) (cn d) ∧ Below w.heap.size w w' := by
  have hA := rcAdd
  have hST := rStore
  go_enter Try.func12, Try.ntmps12
  go_wp2
  have hW : Below w.heap.size w (((w.alloc (.cells #[.float .f64 a, .float .f64 b] 26)).alloc (.cells #[.float .f64 c, .float .f64 d] 26)).alloc (.cells #[.float .f64 0, .float .f64 0] 26)) := by
    repeat first | exact Below.refl _ _ | refine Below.alloc ?_ (by simp; try omega) _
  have f0 := ((Rb.new w a b 26 rfl).alloc (.cells #[.float .f64 c, .float .f64 d] 26)).alloc (.cells #[.float .f64 0, .float .f64 0] 26)
  have f1 := (Rb.new (w.alloc (.cells #[.float .f64 a, .float .f64 b] 26)) c d 26 (g := w.heap.size + 1) (by simp)).alloc (.cells #[.float .f64 0, .float .f64 0] 26)
  have f2 := Rb.new ((w.alloc (.cells #[.float .f64 a, .float .f64 b] 26)).alloc (.cells #[.float .f64 c, .float .f64 d] 26)) 0 0 26 (g := w.heap.size + 1 + 1) (by simp)
  have hs : w.heap.size + 2 ≤ (((w.alloc (.cells #[.float .f64 a, .float .f64 b] 26)).alloc (.cells #[.float .f64 c, .float .f64 d] 26)).alloc (.cells #[.float .f64 0, .float .f64 0] 26)).heap.size := by simp
  generalize (((w.alloc (.cells #[.float .f64 a, .float .f64 b] 26)).alloc (.cells #[.float .f64 c, .float .f64 d] 26)).alloc (.cells #[.float .f64 0, .float .f64 0] 26)) = W at *
  have l0 : Below (w.heap.size + 2) W W.drew := (Below.refl _ _).drew
  have g0 := f2.drew
  refine wp_region_any (by kernel_rfl) ?_
  change wpAny _ _ _ _ _ _ _ (World.drew _)
  refine wpI_any (I := fun X => Below (w.heap.size + 2) W X) _ _ _ _ ?_
  refine wpI_take (i := 0) (v := ?_) rfl (by kernel_rfl) (by kernel_rfl) (by kernel_rfl) (fun _ _ _ h => h) ⟨by rfl, ?_⟩ ?_
  rotate_left
  · intro X hI; obtain ⟨c0, c1, _, _⟩ := f0.below hI (by omega); go_simp; with_reducible rfl
  refine wpI_take (i := 2) (v := ?_) rfl (by kernel_rfl) (by kernel_rfl) (by kernel_rfl) (fun _ _ _ h => h) ⟨by rfl, ?_⟩ ?_
  rotate_left
  · intro X hI; obtain ⟨c0, c1, _, _⟩ := f1.below hI (by omega); go_simp; with_reducible rfl
  refine wpI_only (i := 1) rfl (by kernel_rfl) l0 (by rfl) ?_
  intro K hK
  go_simp
  go_wp2_with (go_at_call 26; refine (toC_any _ _ _).mono ?_; rintro e x1 ⟨rfl, hb1⟩; have l1 := bgo l0 hs hb1; have g1 := g0.call hb1)
  refine wpI_only (i := 3) rfl (by kernel_rfl) l1 (by rfl) ?_
  intro K hK
  go_simp
  go_wp2_with (go_at_call 26; refine (toC_any _ _ _).mono ?_; rintro e x2 ⟨rfl, hb2⟩; have l2 := bgo l1 hs hb2; have g2 := g1.call hb2)
  refine wpI_only (i := 4) rfl (by kernel_rfl) l2 (by rfl) ?_
  intro K hK
  go_simp
  have l3 := below_fwor (below_fwor l2 .add a c) .add b d
  have g3 := (g2.fwor .add a c).fwor .add b d
  have ex := cn_fres .add x2 a c
  have ey := cn_fres .add (fwor .add x2 a c) b d
  generalize fres .add x2 a c = x at *
  generalize fres .add (fwor .add x2 a c) b d = y at *
  refine hK _ _ ?_
  refine wpI_only (i := 5) rfl (by kernel_rfl) l3 (by rfl) ?_
  intro K hK
  go_simp
  go_wp2_with (go_at_call 24; refine (toP_any _ _ _).mono ?_; rintro e x4 ⟨rfl, hb4⟩; have l4 := bgo l3 hs hb4; have g4 := g3.call hb4)
  refine wpI_only (i := 6) rfl (by kernel_rfl) l4 (by rfl) ?_
  intro K hK
  obtain ⟨c0, c1, z0, z1⟩ := g4
  have l5 := (l4.setCell (p := ⟨w.heap.size + 1 + 1, 0, none⟩) (Nat.le_refl _) (.float .f64 x)).setCell (p := ⟨w.heap.size + 1 + 1, 1, none⟩) (Nat.le_refl _) (.float .f64 y)
  go_simp
  refine hK _ _ ?_
  refine wpI_done l5 (by kernel_rfl) ?_ _
  go_wp2
  refine bodyPost_ret (v := Pv x y) (by simp [results, Try.results12, go_sem, c0, c1]) rfl ⟨x, y, rfl, ex, ey, hW.trans (l5.mono (by omega))⟩
end Go.Proofs.Ytbogkkkfbimacaa
