/- PolyPair: the program's. -/
import Derived.Test.YtbogkkkfbimacaaL3
import Derived.Test.YtbogkkkfbimacaaL4
namespace Go.Proofs.Ytbogkkkfbimacaa
open Go.RowKit

theorem rStoreC (a : Addr) (x y : Nat) (m : Mode) (w : World) : (store a (.complex .f64 x y) m).run Try.prog w = stored Try.prog w a (.complex .f64 x y) m := run_store Try.prog w a _ m rfl

theorem cell_new (w : World) (v : Value) (t : TypeId) {g : Nat} (hg : w.heap.size = g) : (w.alloc (.cells #[v] t)).cell? ⟨g, 0, none⟩ = some v := by
  subst hg
  simp

set_option maxHeartbeats 4000000 in
set_option maxRecDepth 10000 in
theorem iPoly_any {w : World} {v : Value} {n : Nat} {xs ys : Nat → Nat} (x1 x2 : Nat) (hv : Fp w v n xs ys) (h0 : 0 < n) (hn : n ≤ 128) :
    Calls Try.prog 21 #[v, Pv x1 x2] w fun e w' => ∃ a b, e = .returned (Pv a b) ∧ cn a = (cpoly xs ys n (cn x1) (cn x2) (n - 1)).1 ∧ cn b = (cpoly xs ys n (cn x1) (cn x2) (n - 1)).2 ∧ Below w.heap.size w w' := by
  obtain ⟨ao, cap, rfl, hcap, hc⟩ := hv
  obtain ⟨b, off, rfl, hlt, hcell⟩ := hc h0
  have rA : ∀ k, k < n → ∀ X, Below w.heap.size w X → X.cell? ⟨b, off + k * 2, none⟩ = some (.float .f64 (xs k)) ∧ X.cell? ⟨b, off + k * 2 + 1, none⟩ = some (.float .f64 (ys k)) := fun k h1 X hX => ⟨(hX.cell (p := ⟨b, off + k * 2, none⟩) hlt).trans (hcell k h1).1, (hX.cell (p := ⟨b, off + k * 2 + 1, none⟩) hlt).trans (hcell k h1).2⟩
  have RA : Hid _ := rA
  obtain ⟨m, rfl⟩ : ∃ m, n = m + 1 := ⟨n - 1, by omega⟩
  have hz1 : ((m : Int) + 1 == 0) = false := by simp; omega
  clear hc hcell rA hlt
  have hST := rStore
  have hSC := rStoreC
  have hmf : ∀ (fn : Fn) (first cap : Array Value) (w : World), (Instr.makeFunc fn first cap).run Try.prog w = .ok (.func fn first cap) w := fun _ _ _ _ => rfl
  go_enter Try.func21, Try.ntmps21
  go_upto_region 5 with (go_at_call 26; refine (toC_any _ _ _).mono ?_; rintro e w1 ⟨rfl, hb1⟩)
  have hW1 : Below w.heap.size w w1 := by
    refine bstep ?_ hb1
    repeat first | exact Below.refl _ _ | refine Below.alloc ?_ (by simp; try omega) _
  have cl1 : w1.cell? ⟨w.heap.size, 0, none⟩ = some (.slice (some ⟨b, off, none⟩) (m + 1) cap) := keepc hb1 (keepc (below_one _ _) (keepc (below_one _ _) (keepc (below_one _ _) (cell_new w _ _ rfl))))
  have cm1 : w1.cell? ⟨w.heap.size + 1 + 1 + 1, 0, none⟩ = some (.int .i64 m) := keepc hb1 (cell_new _ _ _ (by simp))
  have r1 : Rb w1 (w.heap.size + 1 + 1) 0 0 := Rb.call ((Rb.new _ _ _ 26 (by simp)).alloc _) hb1
  clear hb1
  have hW : Below w.heap.size w (w1.alloc (.cells #[.complex .f64 x1 x2] 40)) := bstep hW1 (below_one _ _)
  have cl := keepc (below_one w1 (.cells #[.complex .f64 x1 x2] 40)) cl1
  have cm := keepc (below_one w1 (.cells #[.complex .f64 x1 x2] 40)) cm1
  have ca : (w1.alloc (.cells #[.complex .f64 x1 x2] 40)).cell? ⟨w1.heap.size, 0, none⟩ = some (.complex .f64 x1 x2) := by simp
  have r0 := r1.alloc (.cells #[.complex .f64 x1 x2] 40)
  have hs : w.heap.size + 2 ≤ (w1.alloc (.cells #[.complex .f64 x1 x2] 40)).heap.size := by have := r0.lt; omega
  clear cl1 cm1 r1 hW1
  generalize (w1.alloc (.cells #[.complex .f64 x1 x2] 40)) = W at *
  generalize w1.heap.size = ga at *
  have hix : (m : Int) < m + 1 := by omega
  have cm' := (Below.refl W.heap.size W).drew
  have l0 : Below (w.heap.size + 2) W W.drew ∧ W.drew.cell? ⟨w.heap.size + 1 + 1 + 1, 0, none⟩ = some (.int .i64 m) := ⟨(Below.refl _ _).drew, keepc (Below.refl _ _).drew cm⟩
  have r0d := r0.drew
  have cld := keepc cm' cl
  have cad := keepc cm' ca
  have hWd := bstep hW cm'
  refine wp_region_any (by kernel_rfl) ?_
  change wpAny _ _ _ _ _ _ _ (World.drew _)
  refine wpI_any (I := fun X => Below (w.heap.size + 2) W X ∧ X.cell? ⟨w.heap.size + 1 + 1 + 1, 0, none⟩ = some (.int .i64 m)) _ _ _ _ ?_
  refine wpI_take (i := 0) (v := ?_) rfl (by kernel_rfl) (by kernel_rfl) (by kernel_rfl) (fun _ _ _ h => h) ⟨by rfl, ?_⟩ ?_
  rotate_left
  · intro X hI; have c := hI.2; go_simp; with_reducible rfl
  refine wpI_take (i := 1) (v := ?_) rfl (by kernel_rfl) (by kernel_rfl) (by kernel_rfl) (fun _ _ _ h => h) ⟨by rfl, ?_⟩ ?_
  rotate_left
  · intro X hI; have c := (hI.1.cell (p := ⟨w.heap.size, 0, none⟩) (by show w.heap.size < w.heap.size + 2; omega)).trans cl; go_simp; with_reducible rfl
  refine wpI_take (i := 2) (v := ?_) rfl (by kernel_rfl) (by kernel_rfl) (by kernel_rfl) (fun _ _ _ h => h) ⟨by rfl, ?_⟩ ?_
  rotate_left
  · intro X hI; have c := hI.2; go_simp; with_reducible rfl
  refine wpI_take (i := 3) (v := ?_) rfl (by kernel_rfl) (by kernel_rfl) (by kernel_rfl) (fun _ _ _ h => h) ⟨by rfl, ?_⟩ ?_
  rotate_left
  · intro X hI; go_simp; with_reducible rfl
  refine wpI_take (i := 4) (v := ?_) rfl (by kernel_rfl) (by kernel_rfl) (by kernel_rfl) (fun _ _ _ h => h) ⟨by rfl, ?_⟩ ?_
  rotate_left
  · intro X hI; obtain ⟨c0, c1⟩ := RA.out m (by omega) X (hW.trans (hI.1.mono (by omega))); go_simp; with_reducible rfl
  refine wpI_take (i := 6) (v := ?_) rfl (by kernel_rfl) (by kernel_rfl) (by kernel_rfl) (fun _ _ _ h => h) ⟨by rfl, ?_⟩ ?_
  rotate_left
  · intro X hI; go_simp; with_reducible rfl
  refine wpI_only (i := 5) rfl (by kernel_rfl) l0 (by rfl) ?_
  intro K hK
  go_simp
  go_wp2_with (go_at_call 26; refine (toC_any _ _ _).mono ?_; rintro e y1 ⟨rfl, hb1⟩)
  have l1 : Below (w.heap.size + 2) W y1 ∧ y1.cell? ⟨w.heap.size + 1 + 1 + 1, 0, none⟩ = some (.int .i64 m) := ⟨bgo l0.1 hs hb1, keepc hb1 l0.2⟩
  have r1 := r0d.call hb1
  have cl1 := keepc hb1 cld
  have ca1 := keepc hb1 cad
  have hW1 := bstep hWd hb1
  have ho := over23_24 (w := y1) (n := m) (by omega) (.pointer (some ⟨ga, 0, none⟩)) (.pointer (some ⟨w.heap.size, 0, none⟩)) (.pointer (some ⟨w.heap.size + 1 + 1 + 1, 0, none⟩)) (xs m) (ys m) (cpoly xs ys (m + 1) (cn x1) (cn x2)) ⟨rfl, rfl⟩ (fun k hk S1 S2 X hX hS1 hS2 => by
    obtain ⟨c0, c1⟩ := RA.out (m - 1 - k) (by omega) X (bstep hW1 hX)
    refine (step24 S1 S2 hk (by omega) (keepc hX ca1) (keepc hX cl1) (keepc hX l1.2) c0 c1).mono ?_
    rintro e w' ⟨u1, u2, rfl, e1, e2, hb⟩
    exact ⟨u1, u2, rfl, by rw [e1, hS1, hS2]; rfl, by rw [e2, hS1, hS2]; rfl, hb⟩)
  clear hb1 r0d cld cad hWd cl1 ca1
  refine wpI_only (i := 7) rfl (by kernel_rfl) l1 (by rfl) ?_
  intro K hK
  go_simp
  go_wp2_with (go_at_call 32; refine ho.mono ?_; rintro e y2 ⟨u1, u2, rfl, e1, e2, hb2⟩)
  have l2 : Below (w.heap.size + 2) W y2 ∧ y2.cell? ⟨w.heap.size + 1 + 1 + 1, 0, none⟩ = some (.int .i64 m) := ⟨bgo l1.1 hs hb2, keepc hb2 l1.2⟩
  have r2 := r1.call hb2
  have hW2 := bstep hW1 hb2
  refine wpI_only (i := 8) rfl (by kernel_rfl) l2 (by rfl) ?_
  intro K hK
  go_simp
  go_wp2_with (go_at_call 24; refine (toP_any _ _ _).mono ?_; rintro e y3 ⟨rfl, hb3⟩)
  have l3 : Below (w.heap.size + 2) W y3 ∧ y3.cell? ⟨w.heap.size + 1 + 1 + 1, 0, none⟩ = some (.int .i64 m) := ⟨bgo l2.1 hs hb3, keepc hb3 l2.2⟩
  have r3 := r2.call hb3
  have hW3 := bstep hW2 hb3
  have hf : Below w.heap.size w ((y3.setCell ⟨w.heap.size + 1 + 1, 0, none⟩ (.float .f64 u1)).setCell ⟨w.heap.size + 1 + 1, 1, none⟩ (.float .f64 u2)) := (hW3.setCell (p := ⟨w.heap.size + 1 + 1, 0, none⟩) (by show w.heap.size ≤ w.heap.size + 1 + 1; omega) _).setCell (p := ⟨w.heap.size + 1 + 1, 1, none⟩) (by show w.heap.size ≤ w.heap.size + 1 + 1; omega) _
  have lm := l3.2
  obtain ⟨c0, c1, z0, z1⟩ := r3
  refine wpI_only (i := 9) rfl (by kernel_rfl) l3 (by rfl) ?_
  intro K hK
  go_simp
  refine hK _ _ ?_
  refine wpI_done ⟨(l3.1.setCell (Nat.le_refl _) _).setCell (Nat.le_refl _) _, by simp [go_sem, lm]⟩ (by kernel_rfl) ?_ _
  go_wp2
  refine bodyPost_ret (v := Pv u1 u2) (by simp [results, Try.results21, go_sem, c0, c1]) rfl ⟨u1, u2, rfl, e1, e2, hf⟩
end Go.Proofs.Ytbogkkkfbimacaa
