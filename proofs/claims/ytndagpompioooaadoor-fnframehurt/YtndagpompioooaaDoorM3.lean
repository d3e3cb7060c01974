/- YM YN YO. -/
import Derived.Test.YtndagpompioooaaDoorM2
import Derived.Test.YtndagpompioooaaDoorEB
import Derived.Test.YtndagpompioooaaDoorUF
import Derived.Test.YtndagpompioooaaDoorUV
import Derived.Test.YtndagpompioooaaDoorPL
import Derived.Test.YtndagpompioooaaDoorUG
import Derived.Test.YtndagpompioooaaDoorCI
namespace Go.Proofs.YtndagpompioooaaDoor
open Go.RowKit

/-- What the closure leaves where a frame is read. -/
def Of1 (W w1 : World) (ps pn N : Nat) (zs : Nat → Int) (nx : Int) : Prop :=
  ∃ u w2, w2.ownsRow W.heap.size 3 1 u N (ils zs N) ∧ Below W.heap.size W w2 ∧ w1 = (w2.setCell ⟨ps, 0, none⟩ u).setCell ⟨pn, 0, none⟩ (.int .i64 nx)

set_option maxHeartbeats 2000000 in
theorem of1_ok {w : World} {pb pa ps pn N : Nat} {v old : Value} {at_ nx x0 : Int} {zs : Nat → Int} {bo : Option Addr} {n cap : Nat} (hv : v = .slice bo n cap)
    (hR : Calls Tryd.prog 70 #[v, .int .i64 at_] w fun e w' => (∃ u, e = .returned (.tuple #[u, .int .i64 nx]) ∧ w'.ownsRow w.heap.size 3 1 u N (ils zs N)) ∧ Below w.heap.size w w')
    (hb : w.cell? ⟨pb, 0, none⟩ = some v) (ha : w.cell? ⟨pa, 0, none⟩ = some (.int .i64 at_)) (hs : w.cell? ⟨ps, 0, none⟩ = some old) (hn : w.cell? ⟨pn, 0, none⟩ = some (.int .i64 x0)) (zs_ : w.frozen? ⟨ps, 0, none⟩ = false) (zn : w.frozen? ⟨pn, 0, none⟩ = false) (hne : pn ≠ ps) :
    Calls Tryd.prog 69 #[.pointer (some ⟨pb, 0, none⟩), .pointer (some ⟨pa, 0, none⟩), .pointer (some ⟨ps, 0, none⟩), .pointer (some ⟨pn, 0, none⟩)] w fun e w' => e = .returned (.tuple #[]) ∧ Of1 w w' ps pn N zs nx := by
  subst hv
  have HN : Hid (Calls Tryd.prog 70 #[.slice bo n cap, .int .i64 at_] w fun e w' => (∃ u, e = .returned (.tuple #[u, .int .i64 nx]) ∧ w'.ownsRow w.heap.size 3 1 u N (ils zs N)) ∧ Below w.heap.size w w') := hR
  have hsl := World.block_lt_of_cell? w _ hs
  have hnl := World.block_lt_of_cell? w _ hn
  clear hR
  go_enter Tryd.func69, Tryd.ntmps69
  go_wp2_with (first
    | (go_at_call 70; refine HN.out.mono ?_; rintro e w2 ⟨⟨u, rfl, ho⟩, hb2⟩; obtain ⟨ua, uc, hu9⟩ := own_slice3 ho; subst hu9; have cs := keepc hb2 hs; have cn := keepc hb2 hn; have y0 := (hb2.frozen (p := ⟨ps, 0, none⟩) hsl).trans zs_; have y1 := (hb2.frozen (p := ⟨pn, 0, none⟩) hnl).trans zn; have cn2 : (w2.setCell ⟨ps, 0, none⟩ (.slice ua N uc)).cell? ⟨pn, 0, none⟩ = some (.int .i64 x0) := (World.cell?_of_block (w := w2) (Below.heap_setCell _ _ _ _ hne)).trans cn; have y2 : (w2.setCell ⟨ps, 0, none⟩ (.slice ua N uc)).frozen? ⟨pn, 0, none⟩ = false := (World.frozen?_of_block (w := w2) (Below.heap_setCell _ _ _ _ hne)).trans y1; have HP : Hid (w2.ownsRow w.heap.size 3 1 (.slice ua N uc) N (ils zs N) ∧ Below w.heap.size w w2) := ⟨ho, hb2⟩; clear ho hb2))
  go_end0
  exact ⟨rfl, _, w2, HP.out.1, HP.out.2, rfl⟩

set_option maxHeartbeats 2000000 in
theorem of1_bad {w : World} {pb pa ps pn : Nat} {v : Value} {at_ c : Int} {bo : Option Addr} {n cap : Nat} (hv : v = .slice bo n cap)
    (hR : Calls Tryd.prog 70 #[v, .int .i64 at_] w fun e w' => e = pan c ∧ Below w.heap.size w w')
    (hb : w.cell? ⟨pb, 0, none⟩ = some v) (ha : w.cell? ⟨pa, 0, none⟩ = some (.int .i64 at_)) :
    Calls Tryd.prog 69 #[.pointer (some ⟨pb, 0, none⟩), .pointer (some ⟨pa, 0, none⟩), .pointer (some ⟨ps, 0, none⟩), .pointer (some ⟨pn, 0, none⟩)] w fun e w' => e = pan c ∧ Below w.heap.size w w' := by
  subst hv
  have HN : Hid (Calls Tryd.prog 70 #[.slice bo n cap, .int .i64 at_] w fun e w' => e = pan c ∧ Below w.heap.size w w') := hR
  clear hR
  go_enter Tryd.func69, Tryd.ntmps69
  go_wp2_with (first
    | (go_at_call 70; refine HN.out.mono ?_; rintro e w2 ⟨rfl, hk2⟩; have HP : Hid (Below w.heap.size w w2) := hk2; clear hk2))
  exact ⟨rfl, rfl, HP.out⟩

/-- What OpenFrame tells. -/
def Pof (w w' : World) (e : Ending) (N : Nat) (ys : Nat → Int) (nx c : Int) : Prop := ∃ u, e = .returned (.tuple #[u, .int .i64 nx, .int .i64 c]) ∧ w'.ownsRow w.heap.size 3 1 u N (ils ys N) ∧ Below w.heap.size w w'

theorem wpI_three {P : Program} {ops : Array Oper} {Q : Exit → Act → World → Prop} {md : Region.Mode} {I : World → Prop} {i j l : Nat} {o o2 o3 : Oper} {fuel : Nat} {listed : Array Bool} {a : Act} {w : World} (ho : ops[i]? = some o) (ho2 : ops[j]? = some o2) (ho3 : ops[l]? = some o3) (hr : Region.ready md ops listed = [i, j, l]) (hI : I w)
    (hw : Region.wanted o (yielded ops a.tmps) = true) (hw2 : Region.wanted o2 (yielded ops a.tmps) = true) (hw3 : Region.wanted o3 (yielded ops a.tmps) = true)
    (h : ∀ K : Act → World → Prop, (∀ a w, wpI P md ops Q I fuel (listed.setIfInBounds i true) a w → K a w) → Oper.wp P o a w K Q)
    (h2 : ∀ K : Act → World → Prop, (∀ a w, wpI P md ops Q I fuel (listed.setIfInBounds j true) a w → K a w) → Oper.wp P o2 a w K Q)
    (h3 : ∀ K : Act → World → Prop, (∀ a w, wpI P md ops Q I fuel (listed.setIfInBounds l true) a w → K a w) → Oper.wp P o3 a w K Q) : wpI P md ops Q I (fuel + 1) listed a w := by
  refine ⟨hI, fun e => (by rw [hr] at e; cases e), fun k hk => ?_⟩
  rw [hr] at hk
  have hk' : k = i ∨ k = j ∨ k = l := by simpa using hk
  rcases hk' with rfl | rfl | rfl
  · unfold wpOp
    simp only [ho, hw, if_true]
    exact .inl (h _ fun _ _ h => h)
  · unfold wpOp
    simp only [ho2, hw2, if_true]
    exact .inl (h2 _ fun _ _ h => h)
  · unfold wpOp
    simp only [ho3, hw3, if_true]
    exact .inl (h3 _ fun _ _ h => h)

theorem own_blkx {w w' : World} {B s n g c : Nat} {e : TypeId} {xs : List Value} (h : w.ownsRow B e s (.slice (some ⟨g, 0, none⟩) n c) n xs) (hk : w'.heap[g]? = w.heap[g]?) : w'.ownsRow B e s (.slice (some ⟨g, 0, none⟩) n c) n xs := by
  refine ⟨h.1, ?_⟩
  rcases h.2 with h' | ⟨g', cap', cur, h', hb', hg, rest⟩
  · exact .inl h'
  · have e1 : g' = g := by injection h' with h1; injection h1 with h2; injection h2 with h3; exact h3.symm
    subst e1
    exact .inr ⟨g', cap', cur, h', hb', hk.trans hg, rest⟩

/-- What lies in memory ahead of the call: the boxes of b, at, samples, next, and the list of no numbers. -/
structure Ofx (w W : World) (v : Value) (at_ : Int) (e ps pn : Nat) : Prop where
  size : W.heap.size = w.heap.size + 5
  below : Below w.heap.size w W
  cb : W.cell? ⟨w.heap.size, 0, none⟩ = some v
  ca : W.cell? ⟨w.heap.size + 1, 0, none⟩ = some (.int .i64 at_)
  cs : W.cell? ⟨ps, 0, none⟩ = some (.slice (some ⟨e, 0, none⟩) 0 0)
  cn : W.cell? ⟨pn, 0, none⟩ = some (.int .i64 at_)
  zs : W.frozen? ⟨ps, 0, none⟩ = false
  zn : W.frozen? ⟨pn, 0, none⟩ = false
  row : W.ownsRow w.heap.size 3 1 (.slice (some ⟨e, 0, none⟩) 0 0) 0 []
  ne1 : pn ≠ ps
  ne2 : e ≠ ps
  ne3 : e ≠ pn
  lo : w.heap.size + 2 ≤ ps ∧ w.heap.size + 2 ≤ pn ∧ w.heap.size + 2 ≤ e

theorem ofx_023 (w : World) (bo : Option Addr) (n cap : Nat) (at_ : Int) : Ofx w ((((((w.alloc (.cells #[.slice bo n cap] 22)).alloc (.cells #[.int .i64 at_] 3)).alloc (.cells #[] 3)).alloc (.cells #[.slice (some ⟨w.heap.size + 1 + 1, 0, none⟩) 0 0] 24)).alloc (.cells #[.int .i64 at_] 3)).drew) (.slice bo n cap) at_ (w.heap.size + 1 + 1) (w.heap.size + 1 + 1 + 1) (w.heap.size + 1 + 1 + 1 + 1) := by
  have r0 : (((w.alloc (.cells #[.slice bo n cap] 22)).alloc (.cells #[.int .i64 at_] 3)).alloc (.cells #[] 3)).ownsRow w.heap.size 3 1 (.slice (some ⟨w.heap.size + 1 + 1, 0, none⟩) 0 0) 0 [] := by
    have := own_base (B' := w.heap.size) (own_empty ((w.alloc (.cells #[.slice bo n cap] 22)).alloc (.cells #[.int .i64 at_] 3)) 3 1) (by simp <;> omega)
    simpa using this
  have r1 := own_below r0 (below_one _ (.cells #[.slice (some ⟨w.heap.size + 1 + 1, 0, none⟩) 0 0] 24))
  have r2 := own_below r1 (below_one _ (.cells #[.int .i64 at_] 3))
  have r9 := own_below r2 ((Below.refl _ _).drew)
  refine ⟨by simp, ?_, by simp [go_sem], by simp [go_sem], by simp [go_sem], by simp [go_sem], by simp [go_sem], by simp [go_sem], r9, by omega, by omega, by omega, by omega⟩
  repeat first
    | exact (below_one _ _)
    | (refine Below.setCell ?_ (by simp <;> omega) _)
    | (refine Below.drew ?_)
    | (refine Below.alloc ?_ (by simp <;> omega) _)

theorem ofx_032 (w : World) (bo : Option Addr) (n cap : Nat) (at_ : Int) : Ofx w ((((((w.alloc (.cells #[.slice bo n cap] 22)).alloc (.cells #[.int .i64 at_] 3)).alloc (.cells #[] 3)).alloc (.cells #[.int .i64 at_] 3)).alloc (.cells #[.slice (some ⟨w.heap.size + 1 + 1, 0, none⟩) 0 0] 24)).drew) (.slice bo n cap) at_ (w.heap.size + 1 + 1) (w.heap.size + 1 + 1 + 1 + 1) (w.heap.size + 1 + 1 + 1) := by
  have r0 : (((w.alloc (.cells #[.slice bo n cap] 22)).alloc (.cells #[.int .i64 at_] 3)).alloc (.cells #[] 3)).ownsRow w.heap.size 3 1 (.slice (some ⟨w.heap.size + 1 + 1, 0, none⟩) 0 0) 0 [] := by
    have := own_base (B' := w.heap.size) (own_empty ((w.alloc (.cells #[.slice bo n cap] 22)).alloc (.cells #[.int .i64 at_] 3)) 3 1) (by simp <;> omega)
    simpa using this
  have r1 := own_below r0 (below_one _ (.cells #[.int .i64 at_] 3))
  have r2 := own_below r1 (below_one _ (.cells #[.slice (some ⟨w.heap.size + 1 + 1, 0, none⟩) 0 0] 24))
  have r9 := own_below r2 ((Below.refl _ _).drew)
  refine ⟨by simp, ?_, by simp [go_sem], by simp [go_sem], by simp [go_sem], by simp [go_sem], by simp [go_sem], by simp [go_sem], r9, by omega, by omega, by omega, by omega⟩
  repeat first
    | exact (below_one _ _)
    | (refine Below.setCell ?_ (by simp <;> omega) _)
    | (refine Below.drew ?_)
    | (refine Below.alloc ?_ (by simp <;> omega) _)

theorem ofx_203 (w : World) (bo : Option Addr) (n cap : Nat) (at_ : Int) : Ofx w ((((((w.alloc (.cells #[.slice bo n cap] 22)).alloc (.cells #[.int .i64 at_] 3)).alloc (.cells #[.slice (some ⟨w.heap.size + 1 + 1 + 1, 0, none⟩) 0 0] 24)).alloc (.cells #[] 3)).alloc (.cells #[.int .i64 at_] 3)).drew) (.slice bo n cap) at_ (w.heap.size + 1 + 1 + 1) (w.heap.size + 1 + 1) (w.heap.size + 1 + 1 + 1 + 1) := by
  have r0 : ((((w.alloc (.cells #[.slice bo n cap] 22)).alloc (.cells #[.int .i64 at_] 3)).alloc (.cells #[.slice (some ⟨w.heap.size + 1 + 1 + 1, 0, none⟩) 0 0] 24)).alloc (.cells #[] 3)).ownsRow w.heap.size 3 1 (.slice (some ⟨w.heap.size + 1 + 1 + 1, 0, none⟩) 0 0) 0 [] := by
    have := own_base (B' := w.heap.size) (own_empty (((w.alloc (.cells #[.slice bo n cap] 22)).alloc (.cells #[.int .i64 at_] 3)).alloc (.cells #[.slice (some ⟨w.heap.size + 1 + 1 + 1, 0, none⟩) 0 0] 24)) 3 1) (by simp <;> omega)
    simpa using this
  have r2 := own_below r0 (below_one _ (.cells #[.int .i64 at_] 3))
  have r9 := own_below r2 ((Below.refl _ _).drew)
  refine ⟨by simp, ?_, by simp [go_sem], by simp [go_sem], by simp [go_sem], by simp [go_sem], by simp [go_sem], by simp [go_sem], r9, by omega, by omega, by omega, by omega⟩
  repeat first
    | exact (below_one _ _)
    | (refine Below.setCell ?_ (by simp <;> omega) _)
    | (refine Below.drew ?_)
    | (refine Below.alloc ?_ (by simp <;> omega) _)

theorem ofx_230 (w : World) (bo : Option Addr) (n cap : Nat) (at_ : Int) : Ofx w ((((((w.alloc (.cells #[.slice bo n cap] 22)).alloc (.cells #[.int .i64 at_] 3)).alloc (.cells #[.slice (some ⟨w.heap.size + 1 + 1 + 1 + 1, 0, none⟩) 0 0] 24)).alloc (.cells #[.int .i64 at_] 3)).alloc (.cells #[] 3)).drew) (.slice bo n cap) at_ (w.heap.size + 1 + 1 + 1 + 1) (w.heap.size + 1 + 1) (w.heap.size + 1 + 1 + 1) := by
  have r0 : (((((w.alloc (.cells #[.slice bo n cap] 22)).alloc (.cells #[.int .i64 at_] 3)).alloc (.cells #[.slice (some ⟨w.heap.size + 1 + 1 + 1 + 1, 0, none⟩) 0 0] 24)).alloc (.cells #[.int .i64 at_] 3)).alloc (.cells #[] 3)).ownsRow w.heap.size 3 1 (.slice (some ⟨w.heap.size + 1 + 1 + 1 + 1, 0, none⟩) 0 0) 0 [] := by
    have := own_base (B' := w.heap.size) (own_empty ((((w.alloc (.cells #[.slice bo n cap] 22)).alloc (.cells #[.int .i64 at_] 3)).alloc (.cells #[.slice (some ⟨w.heap.size + 1 + 1 + 1 + 1, 0, none⟩) 0 0] 24)).alloc (.cells #[.int .i64 at_] 3)) 3 1) (by simp <;> omega)
    simpa using this
  have r9 := own_below r0 ((Below.refl _ _).drew)
  refine ⟨by simp, ?_, by simp [go_sem], by simp [go_sem], by simp [go_sem], by simp [go_sem], by simp [go_sem], by simp [go_sem], r9, by omega, by omega, by omega, by omega⟩
  repeat first
    | exact (below_one _ _)
    | (refine Below.setCell ?_ (by simp <;> omega) _)
    | (refine Below.drew ?_)
    | (refine Below.alloc ?_ (by simp <;> omega) _)

theorem ofx_302 (w : World) (bo : Option Addr) (n cap : Nat) (at_ : Int) : Ofx w ((((((w.alloc (.cells #[.slice bo n cap] 22)).alloc (.cells #[.int .i64 at_] 3)).alloc (.cells #[.int .i64 at_] 3)).alloc (.cells #[] 3)).alloc (.cells #[.slice (some ⟨w.heap.size + 1 + 1 + 1, 0, none⟩) 0 0] 24)).drew) (.slice bo n cap) at_ (w.heap.size + 1 + 1 + 1) (w.heap.size + 1 + 1 + 1 + 1) (w.heap.size + 1 + 1) := by
  have r0 : ((((w.alloc (.cells #[.slice bo n cap] 22)).alloc (.cells #[.int .i64 at_] 3)).alloc (.cells #[.int .i64 at_] 3)).alloc (.cells #[] 3)).ownsRow w.heap.size 3 1 (.slice (some ⟨w.heap.size + 1 + 1 + 1, 0, none⟩) 0 0) 0 [] := by
    have := own_base (B' := w.heap.size) (own_empty (((w.alloc (.cells #[.slice bo n cap] 22)).alloc (.cells #[.int .i64 at_] 3)).alloc (.cells #[.int .i64 at_] 3)) 3 1) (by simp <;> omega)
    simpa using this
  have r2 := own_below r0 (below_one _ (.cells #[.slice (some ⟨w.heap.size + 1 + 1 + 1, 0, none⟩) 0 0] 24))
  have r9 := own_below r2 ((Below.refl _ _).drew)
  refine ⟨by simp, ?_, by simp [go_sem], by simp [go_sem], by simp [go_sem], by simp [go_sem], by simp [go_sem], by simp [go_sem], r9, by omega, by omega, by omega, by omega⟩
  repeat first
    | exact (below_one _ _)
    | (refine Below.setCell ?_ (by simp <;> omega) _)
    | (refine Below.drew ?_)
    | (refine Below.alloc ?_ (by simp <;> omega) _)

theorem ofx_320 (w : World) (bo : Option Addr) (n cap : Nat) (at_ : Int) : Ofx w ((((((w.alloc (.cells #[.slice bo n cap] 22)).alloc (.cells #[.int .i64 at_] 3)).alloc (.cells #[.int .i64 at_] 3)).alloc (.cells #[.slice (some ⟨w.heap.size + 1 + 1 + 1 + 1, 0, none⟩) 0 0] 24)).alloc (.cells #[] 3)).drew) (.slice bo n cap) at_ (w.heap.size + 1 + 1 + 1 + 1) (w.heap.size + 1 + 1 + 1) (w.heap.size + 1 + 1) := by
  have r0 : (((((w.alloc (.cells #[.slice bo n cap] 22)).alloc (.cells #[.int .i64 at_] 3)).alloc (.cells #[.int .i64 at_] 3)).alloc (.cells #[.slice (some ⟨w.heap.size + 1 + 1 + 1 + 1, 0, none⟩) 0 0] 24)).alloc (.cells #[] 3)).ownsRow w.heap.size 3 1 (.slice (some ⟨w.heap.size + 1 + 1 + 1 + 1, 0, none⟩) 0 0) 0 [] := by
    have := own_base (B' := w.heap.size) (own_empty ((((w.alloc (.cells #[.slice bo n cap] 22)).alloc (.cells #[.int .i64 at_] 3)).alloc (.cells #[.int .i64 at_] 3)).alloc (.cells #[.slice (some ⟨w.heap.size + 1 + 1 + 1 + 1, 0, none⟩) 0 0] 24)) 3 1) (by simp <;> omega)
    simpa using this
  have r9 := own_below r0 ((Below.refl _ _).drew)
  refine ⟨by simp, ?_, by simp [go_sem], by simp [go_sem], by simp [go_sem], by simp [go_sem], by simp [go_sem], by simp [go_sem], r9, by omega, by omega, by omega, by omega⟩
  repeat first
    | exact (below_one _ _)
    | (refine Below.setCell ?_ (by simp <;> omega) _)
    | (refine Below.drew ?_)
    | (refine Below.alloc ?_ (by simp <;> omega) _)
end Go.Proofs.YtndagpompioooaaDoor

namespace Go.Proofs.YtndagpompioooaaDoor
open Go.RowKit

set_option maxRecDepth 20000 in
set_option maxHeartbeats 8000000 in
theorem iOf_ok {w : World} {v : Value} {n : Nat} {y : Nat → Int} {at_ : Int} (hg : Eg w) (hv : Bl w v n y) {N : Nat} {zs : Nat → Int} {nx : Int} (hR : ∀ W, Below w.heap.size w W → Calls Tryd.prog 70 #[v, .int .i64 at_] W fun e w' => (∃ u, e = .returned (.tuple #[u, .int .i64 nx]) ∧ w'.ownsRow W.heap.size 3 1 u N (ils zs N)) ∧ Below W.heap.size W w') :
    Calls Tryd.prog 27 #[v, .int .i64 at_] w fun e w' => Pof w w' e N zs nx 0 := by
  have hmf : ∀ (fn : Fn) (first cap : Array Value) (w : World), (Instr.makeFunc fn first cap).run Tryd.prog w = .ok (.func fn first cap) w := fun _ _ _ _ => rfl
  have HG : Hid (Eg w) := hg
  have HRR : Hid _ := hR
  obtain ⟨bo, cap, rfl, hcap, hc⟩ := hv
  clear hc hg hR
  go_enter Tryd.func27, Tryd.ntmps27
  go_upto_region 1 with fail
  refine Code.wp_mono (Q := fun x a W => x = .normal ∧ ∃ e ps pn, Ofx w W (.slice bo n cap) at_ e ps pn ∧ a = { tmps := #[.slice bo n cap, .int .i64 at_, .pointer (some ⟨w.heap.size, 0, none⟩), .pointer (some ⟨w.heap.size + 1, 0, none⟩), .slice none 0 0, .int .i64 0, .int .i64 0, .pointer (some ⟨ps, 0, none⟩), .pointer (some ⟨pn, 0, none⟩), undef, .slice (some ⟨e, 0, none⟩) 0 0, .int .i64 at_, undef, undef, undef, undef, undef], defers := [] }) ?_ ?_
  rotate_left
  · refine wp_region_any (by kernel_rfl) ?_
    change wpAny _ _ _ _ _ _ _ (World.drew _)
    refine wpI_any (I := fun X => X.cell? ⟨w.heap.size + 1, 0, none⟩ = some (.int .i64 at_)) _ _ _ _ ?_
    refine wpI_take (i := 1) (v := .int .i64 at_) rfl (by kernel_rfl) (by kernel_rfl) (by kernel_rfl) (fun _ _ _ h => by cases h.1) ⟨by rfl, ?_⟩ ?_
    · intro X hI; have c9 := hI; go_simp; try go_bits
      try rw [if_pos (by omega)]
      try trivial
    refine wpI_three (i := 0) (j := 2) (l := 3) rfl rfl rfl (by kernel_rfl) (by simp [go_sem]) (by rfl) (by rfl) (by rfl) ?_ ?_ ?_
    · intro K hK
      go_simp
      try go_bits
      refine hK _ _ ?_
      clear hK K
      refine wpI_two (i := 2) (j := 3) rfl rfl (by kernel_rfl) (by simp [go_sem]) (by rfl) (by rfl) ?_ ?_
      · intro K hK
        go_simp
        try go_bits
        refine hK _ _ ?_
        clear hK K
        refine wpI_only (i := 3) rfl (by kernel_rfl) (by simp [go_sem]) (by rfl) ?_
        intro K hK
        go_simp
        try go_bits
        refine hK _ _ ?_
        clear hK K
        refine wpI_only (i := 4) rfl (by kernel_rfl) (by simp [go_sem]) (by rfl) ?_
        intro K hK
        go_simp
        refine hK _ _ ?_
        clear hK K
        refine wpI_only (i := 5) rfl (by kernel_rfl) (by simp [go_sem]) (by rfl) ?_
        intro K hK
        go_simp
        refine hK _ _ ?_
        clear hK K
        refine wpI_done (by simp [go_sem]) (by kernel_rfl) ?_ _
        exact ⟨rfl, _, _, _, ofx_023 w bo n cap at_, rfl⟩
      · intro K hK
        go_simp
        try go_bits
        refine hK _ _ ?_
        clear hK K
        refine wpI_only (i := 2) rfl (by kernel_rfl) (by simp [go_sem]) (by rfl) ?_
        intro K hK
        go_simp
        try go_bits
        refine hK _ _ ?_
        clear hK K
        refine wpI_only (i := 4) rfl (by kernel_rfl) (by simp [go_sem]) (by rfl) ?_
        intro K hK
        go_simp
        refine hK _ _ ?_
        clear hK K
        refine wpI_only (i := 5) rfl (by kernel_rfl) (by simp [go_sem]) (by rfl) ?_
        intro K hK
        go_simp
        refine hK _ _ ?_
        clear hK K
        refine wpI_done (by simp [go_sem]) (by kernel_rfl) ?_ _
        exact ⟨rfl, _, _, _, ofx_032 w bo n cap at_, rfl⟩
    · intro K hK
      go_simp
      try go_bits
      refine hK _ _ ?_
      clear hK K
      refine wpI_two (i := 0) (j := 3) rfl rfl (by kernel_rfl) (by simp [go_sem]) (by rfl) (by rfl) ?_ ?_
      · intro K hK
        go_simp
        try go_bits
        refine hK _ _ ?_
        clear hK K
        refine wpI_only (i := 3) rfl (by kernel_rfl) (by simp [go_sem]) (by rfl) ?_
        intro K hK
        go_simp
        try go_bits
        refine hK _ _ ?_
        clear hK K
        refine wpI_only (i := 4) rfl (by kernel_rfl) (by simp [go_sem]) (by rfl) ?_
        intro K hK
        go_simp
        refine hK _ _ ?_
        clear hK K
        refine wpI_only (i := 5) rfl (by kernel_rfl) (by simp [go_sem]) (by rfl) ?_
        intro K hK
        go_simp
        refine hK _ _ ?_
        clear hK K
        refine wpI_done (by simp [go_sem]) (by kernel_rfl) ?_ _
        exact ⟨rfl, _, _, _, ofx_203 w bo n cap at_, rfl⟩
      · intro K hK
        go_simp
        try go_bits
        refine hK _ _ ?_
        clear hK K
        refine wpI_only (i := 0) rfl (by kernel_rfl) (by simp [go_sem]) (by rfl) ?_
        intro K hK
        go_simp
        try go_bits
        refine hK _ _ ?_
        clear hK K
        refine wpI_only (i := 4) rfl (by kernel_rfl) (by simp [go_sem]) (by rfl) ?_
        intro K hK
        go_simp
        refine hK _ _ ?_
        clear hK K
        refine wpI_only (i := 5) rfl (by kernel_rfl) (by simp [go_sem]) (by rfl) ?_
        intro K hK
        go_simp
        refine hK _ _ ?_
        clear hK K
        refine wpI_done (by simp [go_sem]) (by kernel_rfl) ?_ _
        exact ⟨rfl, _, _, _, ofx_230 w bo n cap at_, rfl⟩
    · intro K hK
      go_simp
      try go_bits
      refine hK _ _ ?_
      clear hK K
      refine wpI_two (i := 0) (j := 2) rfl rfl (by kernel_rfl) (by simp [go_sem]) (by rfl) (by rfl) ?_ ?_
      · intro K hK
        go_simp
        try go_bits
        refine hK _ _ ?_
        clear hK K
        refine wpI_only (i := 2) rfl (by kernel_rfl) (by simp [go_sem]) (by rfl) ?_
        intro K hK
        go_simp
        try go_bits
        refine hK _ _ ?_
        clear hK K
        refine wpI_only (i := 4) rfl (by kernel_rfl) (by simp [go_sem]) (by rfl) ?_
        intro K hK
        go_simp
        refine hK _ _ ?_
        clear hK K
        refine wpI_only (i := 5) rfl (by kernel_rfl) (by simp [go_sem]) (by rfl) ?_
        intro K hK
        go_simp
        refine hK _ _ ?_
        clear hK K
        refine wpI_done (by simp [go_sem]) (by kernel_rfl) ?_ _
        exact ⟨rfl, _, _, _, ofx_302 w bo n cap at_, rfl⟩
      · intro K hK
        go_simp
        try go_bits
        refine hK _ _ ?_
        clear hK K
        refine wpI_only (i := 0) rfl (by kernel_rfl) (by simp [go_sem]) (by rfl) ?_
        intro K hK
        go_simp
        try go_bits
        refine hK _ _ ?_
        clear hK K
        refine wpI_only (i := 4) rfl (by kernel_rfl) (by simp [go_sem]) (by rfl) ?_
        intro K hK
        go_simp
        refine hK _ _ ?_
        clear hK K
        refine wpI_only (i := 5) rfl (by kernel_rfl) (by simp [go_sem]) (by rfl) ?_
        intro K hK
        go_simp
        refine hK _ _ ?_
        clear hK K
        refine wpI_done (by simp [go_sem]) (by kernel_rfl) ?_ _
        exact ⟨rfl, _, _, _, ofx_320 w bo n cap at_, rfl⟩

  rintro x a W3 ⟨rfl, e, ps, pn, hx, rfl⟩
  have bc := below_one W3 (.cells #[.int .i64 0] 3)
  obtain ⟨T, hT⟩ : ∃ T, T = W3.heap.size := ⟨_, rfl⟩
  have tc : (W3.alloc (.cells #[.int .i64 0] 3)).cell? ⟨T, 0, none⟩ = some (.int .i64 0) := by rw [hT]; simp
  have tz : (W3.alloc (.cells #[.int .i64 0] 3)).frozen? ⟨T, 0, none⟩ = false := by rw [hT]; simp
  have hsc : (W3.alloc (.cells #[.int .i64 0] 3)).heap.size = T + 1 := by rw [hT]; exact Array.size_push _
  have pl : ps < T := by rw [hT]; exact World.block_lt_of_cell? W3 _ hx.cs
  have nl : pn < T := by rw [hT]; exact World.block_lt_of_cell? W3 _ hx.cn
  have HX : Hid (Ofx w W3 (.slice bo n cap) at_ e ps pn) := hx
  have hne1 := hx.ne1
  have hlo := hx.lo
  have HCL : Hid (Calls Tryd.prog 50 #[.func (.func 69) #[] #[.pointer (some ⟨w.heap.size, 0, none⟩), .pointer (some ⟨w.heap.size + 1, 0, none⟩), .pointer (some ⟨ps, 0, none⟩), .pointer (some ⟨pn, 0, none⟩)]] W3 fun e w' => e = .returned (.int .i64 0) ∧ ∃ w1, Of1 (W3.alloc (.cells #[.int .i64 0] 3)) w1 ps pn N zs nx ∧ w' = w1.setCell ⟨T, 0, none⟩ (.int .i64 0)) := by
    have hc9 := code_ok_of #[.pointer (some ⟨w.heap.size, 0, none⟩), .pointer (some ⟨w.heap.size + 1, 0, none⟩), .pointer (some ⟨ps, 0, none⟩), .pointer (some ⟨pn, 0, none⟩)] W3 (fun w1 => Of1 (W3.alloc (.cells #[.int .i64 0] 3)) w1 ps pn N zs nx) (of1_ok rfl (HRR.out _ (bstep hx.below bc)) (keepc bc hx.cb) (keepc bc hx.ca) (keepc bc hx.cs) (keepc bc hx.cn) ((bc.frozen (World.block_lt_of_cell? W3 _ hx.cs)).trans hx.zs) ((bc.frozen (World.block_lt_of_cell? W3 _ hx.cn)).trans hx.zn) hx.ne1) (by
      rintro w1 ⟨u, w2, _, hb2, rfl⟩
      rw [← hT]
      have hl : T < (W3.alloc (.cells #[.int .i64 0] 3)).heap.size := by omega
      have eb : ((w2.setCell ⟨ps, 0, none⟩ u).setCell ⟨pn, 0, none⟩ (.int .i64 nx)).heap[T]? = w2.heap[T]? := (Below.heap_setCell _ _ _ _ (show T ≠ pn by omega)).trans (Below.heap_setCell _ _ _ _ (show T ≠ ps by omega))
      exact ⟨(World.cell?_of_block (w := w2) eb).trans ((hb2.cell (p := ⟨T, 0, none⟩) hl).trans tc), (World.frozen?_of_block (w := w2) eb).trans ((hb2.frozen (p := ⟨T, 0, none⟩) hl).trans tz)⟩)
    rw [← hT] at hc9
    exact hc9
  clear hx tc tz
  go_upto_region 3 with (first
    | (go_at_call 50; refine HCL.out.mono ?_; rintro e4 w4 ⟨rfl, w1, hq, hw4⟩; have HU : Hid (Of1 (W3.alloc (.cells #[.int .i64 0] 3)) w1 ps pn N zs nx) := hq; have HW4 : Hid (w4 = w1.setCell ⟨T, 0, none⟩ (.int .i64 0)) := hw4; clear hq hw4))
  obtain ⟨u, w2, ho, hb2, hw1⟩ := HU.out
  obtain ⟨ua, uc, rfl⟩ := own_slice3 ho
  have ls : ps < w2.heap.size := by have := hb2.size; omega
  have cs2 := keepc hb2 (keepc bc HX.out.cs)
  have cn2 := keepc hb2 (keepc bc HX.out.cn)
  have q1 : w1.cell? ⟨ps, 0, none⟩ = some (.slice ua N uc) := by
    rw [hw1, World.cell?_of_block (w := w2.setCell ⟨ps, 0, none⟩ (.slice ua N uc)) (Below.heap_setCell _ _ _ _ (Ne.symm hne1))]
    exact World.cell?_setCell_same' _ _ _ (by rw [cs2]; rfl)
  have q2 : w1.cell? ⟨pn, 0, none⟩ = some (.int .i64 nx) := by
    rw [hw1]
    exact World.cell?_setCell_same' _ _ _ (by rw [World.cell?_of_block (w := w2) (Below.heap_setCell _ _ _ _ hne1), cn2]; rfl)
  have d1 : w4.cell? ⟨ps, 0, none⟩ = some (.slice ua N uc) := by rw [HW4.out]; exact (World.cell?_of_block (w := w1) (Below.heap_setCell _ _ _ _ (show ps ≠ T by omega))).trans q1
  have d2 : w4.cell? ⟨pn, 0, none⟩ = some (.int .i64 nx) := by rw [HW4.out]; exact (World.cell?_of_block (w := w1) (Below.heap_setCell _ _ _ _ (show pn ≠ T by omega))).trans q2
  have O4 : Hid (w4.ownsRow w.heap.size 3 1 (.slice ua N uc) N (ils zs N)) := by
    rw [HW4.out, hw1]
    exact own_base (own_only (own_only (own_only ho ((Only.refl ps _).put 0 _) (by omega)) ((Only.refl pn _).put 0 _) (by omega)) ((Only.refl T _).put 0 _) (by omega)) (by have := HX.out.size; omega)
  have B4 : Hid (Below w.heap.size w w4) := by
    rw [HW4.out, hw1]
    exact (((bstep (bstep HX.out.below bc) hb2).setCell (p := ⟨ps, 0, none⟩) (by show w.heap.size ≤ ps; omega) _).setCell (p := ⟨pn, 0, none⟩) (by show w.heap.size ≤ pn; omega) _).setCell (p := ⟨T, 0, none⟩) (by have := HX.out.size; show w.heap.size ≤ T; omega) _
  clear ho hb2 hw1 HU HW4 HCL q1 q2 cs2 cn2
  go_wp2_with (first | (go_quiet (fail)))
  go_ret3
  exact ⟨_, rfl, own_below O4.out (below_drewN (Below.refl _ _) _), below_drewN B4.out _⟩

set_option maxRecDepth 20000 in
set_option maxHeartbeats 8000000 in
theorem iOf_bad {w : World} {v : Value} {n : Nat} {y : Nat → Int} {at_ : Int} (hg : Eg w) (hv : Bl w v n y) {c : Int} (hR : ∀ W, Below w.heap.size w W → Calls Tryd.prog 70 #[v, .int .i64 at_] W fun e w' => e = pan c ∧ Below W.heap.size W w') (ys : Nat → Int) :
    Calls Tryd.prog 27 #[v, .int .i64 at_] w fun e w' => Pof w w' e 0 ys at_ c := by
  have hmf : ∀ (fn : Fn) (first cap : Array Value) (w : World), (Instr.makeFunc fn first cap).run Tryd.prog w = .ok (.func fn first cap) w := fun _ _ _ _ => rfl
  have HG : Hid (Eg w) := hg
  have HRR : Hid _ := hR
  obtain ⟨bo, cap, rfl, hcap, hc⟩ := hv
  clear hc hg hR
  go_enter Tryd.func27, Tryd.ntmps27
  go_upto_region 1 with fail
  refine Code.wp_mono (Q := fun x a W => x = .normal ∧ ∃ e ps pn, Ofx w W (.slice bo n cap) at_ e ps pn ∧ a = { tmps := #[.slice bo n cap, .int .i64 at_, .pointer (some ⟨w.heap.size, 0, none⟩), .pointer (some ⟨w.heap.size + 1, 0, none⟩), .slice none 0 0, .int .i64 0, .int .i64 0, .pointer (some ⟨ps, 0, none⟩), .pointer (some ⟨pn, 0, none⟩), undef, .slice (some ⟨e, 0, none⟩) 0 0, .int .i64 at_, undef, undef, undef, undef, undef], defers := [] }) ?_ ?_
  rotate_left
  · refine wp_region_any (by kernel_rfl) ?_
    change wpAny _ _ _ _ _ _ _ (World.drew _)
    refine wpI_any (I := fun X => X.cell? ⟨w.heap.size + 1, 0, none⟩ = some (.int .i64 at_)) _ _ _ _ ?_
    refine wpI_take (i := 1) (v := .int .i64 at_) rfl (by kernel_rfl) (by kernel_rfl) (by kernel_rfl) (fun _ _ _ h => by cases h.1) ⟨by rfl, ?_⟩ ?_
    · intro X hI; have c9 := hI; go_simp; try go_bits
      try rw [if_pos (by omega)]
      try trivial
    refine wpI_three (i := 0) (j := 2) (l := 3) rfl rfl rfl (by kernel_rfl) (by simp [go_sem]) (by rfl) (by rfl) (by rfl) ?_ ?_ ?_
    · intro K hK
      go_simp
      try go_bits
      refine hK _ _ ?_
      clear hK K
      refine wpI_two (i := 2) (j := 3) rfl rfl (by kernel_rfl) (by simp [go_sem]) (by rfl) (by rfl) ?_ ?_
      · intro K hK
        go_simp
        try go_bits
        refine hK _ _ ?_
        clear hK K
        refine wpI_only (i := 3) rfl (by kernel_rfl) (by simp [go_sem]) (by rfl) ?_
        intro K hK
        go_simp
        try go_bits
        refine hK _ _ ?_
        clear hK K
        refine wpI_only (i := 4) rfl (by kernel_rfl) (by simp [go_sem]) (by rfl) ?_
        intro K hK
        go_simp
        refine hK _ _ ?_
        clear hK K
        refine wpI_only (i := 5) rfl (by kernel_rfl) (by simp [go_sem]) (by rfl) ?_
        intro K hK
        go_simp
        refine hK _ _ ?_
        clear hK K
        refine wpI_done (by simp [go_sem]) (by kernel_rfl) ?_ _
        exact ⟨rfl, _, _, _, ofx_023 w bo n cap at_, rfl⟩
      · intro K hK
        go_simp
        try go_bits
        refine hK _ _ ?_
        clear hK K
        refine wpI_only (i := 2) rfl (by kernel_rfl) (by simp [go_sem]) (by rfl) ?_
        intro K hK
        go_simp
        try go_bits
        refine hK _ _ ?_
        clear hK K
        refine wpI_only (i := 4) rfl (by kernel_rfl) (by simp [go_sem]) (by rfl) ?_
        intro K hK
        go_simp
        refine hK _ _ ?_
        clear hK K
        refine wpI_only (i := 5) rfl (by kernel_rfl) (by simp [go_sem]) (by rfl) ?_
        intro K hK
        go_simp
        refine hK _ _ ?_
        clear hK K
        refine wpI_done (by simp [go_sem]) (by kernel_rfl) ?_ _
        exact ⟨rfl, _, _, _, ofx_032 w bo n cap at_, rfl⟩
    · intro K hK
      go_simp
      try go_bits
      refine hK _ _ ?_
      clear hK K
      refine wpI_two (i := 0) (j := 3) rfl rfl (by kernel_rfl) (by simp [go_sem]) (by rfl) (by rfl) ?_ ?_
      · intro K hK
        go_simp
        try go_bits
        refine hK _ _ ?_
        clear hK K
        refine wpI_only (i := 3) rfl (by kernel_rfl) (by simp [go_sem]) (by rfl) ?_
        intro K hK
        go_simp
        try go_bits
        refine hK _ _ ?_
        clear hK K
        refine wpI_only (i := 4) rfl (by kernel_rfl) (by simp [go_sem]) (by rfl) ?_
        intro K hK
        go_simp
        refine hK _ _ ?_
        clear hK K
        refine wpI_only (i := 5) rfl (by kernel_rfl) (by simp [go_sem]) (by rfl) ?_
        intro K hK
        go_simp
        refine hK _ _ ?_
        clear hK K
        refine wpI_done (by simp [go_sem]) (by kernel_rfl) ?_ _
        exact ⟨rfl, _, _, _, ofx_203 w bo n cap at_, rfl⟩
      · intro K hK
        go_simp
        try go_bits
        refine hK _ _ ?_
        clear hK K
        refine wpI_only (i := 0) rfl (by kernel_rfl) (by simp [go_sem]) (by rfl) ?_
        intro K hK
        go_simp
        try go_bits
        refine hK _ _ ?_
        clear hK K
        refine wpI_only (i := 4) rfl (by kernel_rfl) (by simp [go_sem]) (by rfl) ?_
        intro K hK
        go_simp
        refine hK _ _ ?_
        clear hK K
        refine wpI_only (i := 5) rfl (by kernel_rfl) (by simp [go_sem]) (by rfl) ?_
        intro K hK
        go_simp
        refine hK _ _ ?_
        clear hK K
        refine wpI_done (by simp [go_sem]) (by kernel_rfl) ?_ _
        exact ⟨rfl, _, _, _, ofx_230 w bo n cap at_, rfl⟩
    · intro K hK
      go_simp
      try go_bits
      refine hK _ _ ?_
      clear hK K
      refine wpI_two (i := 0) (j := 2) rfl rfl (by kernel_rfl) (by simp [go_sem]) (by rfl) (by rfl) ?_ ?_
      · intro K hK
        go_simp
        try go_bits
        refine hK _ _ ?_
        clear hK K
        refine wpI_only (i := 2) rfl (by kernel_rfl) (by simp [go_sem]) (by rfl) ?_
        intro K hK
        go_simp
        try go_bits
        refine hK _ _ ?_
        clear hK K
        refine wpI_only (i := 4) rfl (by kernel_rfl) (by simp [go_sem]) (by rfl) ?_
        intro K hK
        go_simp
        refine hK _ _ ?_
        clear hK K
        refine wpI_only (i := 5) rfl (by kernel_rfl) (by simp [go_sem]) (by rfl) ?_
        intro K hK
        go_simp
        refine hK _ _ ?_
        clear hK K
        refine wpI_done (by simp [go_sem]) (by kernel_rfl) ?_ _
        exact ⟨rfl, _, _, _, ofx_302 w bo n cap at_, rfl⟩
      · intro K hK
        go_simp
        try go_bits
        refine hK _ _ ?_
        clear hK K
        refine wpI_only (i := 0) rfl (by kernel_rfl) (by simp [go_sem]) (by rfl) ?_
        intro K hK
        go_simp
        try go_bits
        refine hK _ _ ?_
        clear hK K
        refine wpI_only (i := 4) rfl (by kernel_rfl) (by simp [go_sem]) (by rfl) ?_
        intro K hK
        go_simp
        refine hK _ _ ?_
        clear hK K
        refine wpI_only (i := 5) rfl (by kernel_rfl) (by simp [go_sem]) (by rfl) ?_
        intro K hK
        go_simp
        refine hK _ _ ?_
        clear hK K
        refine wpI_done (by simp [go_sem]) (by kernel_rfl) ?_ _
        exact ⟨rfl, _, _, _, ofx_320 w bo n cap at_, rfl⟩

  rintro x a W3 ⟨rfl, e, ps, pn, hx, rfl⟩
  have bc := below_one W3 (.cells #[.int .i64 0] 3)
  obtain ⟨T, hT⟩ : ∃ T, T = W3.heap.size := ⟨_, rfl⟩
  have tc : (W3.alloc (.cells #[.int .i64 0] 3)).cell? ⟨T, 0, none⟩ = some (.int .i64 0) := by rw [hT]; simp
  have tz : (W3.alloc (.cells #[.int .i64 0] 3)).frozen? ⟨T, 0, none⟩ = false := by rw [hT]; simp
  have hsc : (W3.alloc (.cells #[.int .i64 0] 3)).heap.size = T + 1 := by rw [hT]; exact Array.size_push _
  have pl : ps < T := by rw [hT]; exact World.block_lt_of_cell? W3 _ hx.cs
  have nl : pn < T := by rw [hT]; exact World.block_lt_of_cell? W3 _ hx.cn
  have HX : Hid (Ofx w W3 (.slice bo n cap) at_ e ps pn) := hx
  have hne1 := hx.ne1
  have hlo := hx.lo
  have HCL : Hid (Calls Tryd.prog 50 #[.func (.func 69) #[] #[.pointer (some ⟨w.heap.size, 0, none⟩), .pointer (some ⟨w.heap.size + 1, 0, none⟩), .pointer (some ⟨ps, 0, none⟩), .pointer (some ⟨pn, 0, none⟩)]] W3 fun e w' => e = .returned (.int .i64 c) ∧ ∃ w1 w2, Below (W3.alloc (.cells #[.int .i64 0] 3)).heap.size (W3.alloc (.cells #[.int .i64 0] 3)) w1 ∧ Below w1.heap.size w1 w2 ∧ w' = w2.setCell ⟨T, 0, none⟩ (.int .i64 c)) := by
    have hc9 := code_bad_of #[.pointer (some ⟨w.heap.size, 0, none⟩), .pointer (some ⟨w.heap.size + 1, 0, none⟩), .pointer (some ⟨ps, 0, none⟩), .pointer (some ⟨pn, 0, none⟩)] W3 c (fun w1 => Below (W3.alloc (.cells #[.int .i64 0] 3)).heap.size (W3.alloc (.cells #[.int .i64 0] 3)) w1) (of1_bad rfl (HRR.out _ (bstep hx.below bc)) (keepc bc hx.cb) (keepc bc hx.ca)) (by
      intro w1 hb2
      rw [← hT]
      have hl : T < (W3.alloc (.cells #[.int .i64 0] 3)).heap.size := by omega
      exact ⟨keepc (bstep (bstep hx.below bc) hb2) HG.out, (hb2.cell (p := ⟨T, 0, none⟩) hl).trans tc, (hb2.frozen (p := ⟨T, 0, none⟩) hl).trans tz⟩)
    rw [← hT] at hc9
    exact hc9
  clear hx tc tz
  go_upto_region 3 with (first
    | (go_at_call 50; refine HCL.out.mono ?_; rintro e4 w4 ⟨rfl, w1, w2, hb1, hb2, hw4⟩; have HU : Hid (Below (W3.alloc (.cells #[.int .i64 0] 3)).heap.size (W3.alloc (.cells #[.int .i64 0] 3)) w2) := bstep hb1 hb2; have HW4 : Hid (w4 = w2.setCell ⟨T, 0, none⟩ (.int .i64 c)) := hw4; clear hb1 hb2 hw4))
  have hb2 := HU.out
  have d1 : w4.cell? ⟨ps, 0, none⟩ = some (.slice (some ⟨e, 0, none⟩) 0 0) := by rw [HW4.out]; exact (World.cell?_of_block (w := w2) (Below.heap_setCell _ _ _ _ (show ps ≠ T by omega))).trans (keepc hb2 (keepc bc HX.out.cs))
  have d2 : w4.cell? ⟨pn, 0, none⟩ = some (.int .i64 at_) := by rw [HW4.out]; exact (World.cell?_of_block (w := w2) (Below.heap_setCell _ _ _ _ (show pn ≠ T by omega))).trans (keepc hb2 (keepc bc HX.out.cn))
  have el : e ≠ T := by
    have h9 := World.ownsRow.lt HX.out.row e rfl
    omega
  have O4 : Hid (w4.ownsRow w.heap.size 3 1 (.slice (some ⟨e, 0, none⟩) 0 0) 0 (ils ys 0)) := by
    rw [HW4.out]
    exact own_blkx (own_below (own_below HX.out.row bc) hb2) (Below.heap_setCell _ _ _ _ el)
  have B4 : Hid (Below w.heap.size w w4) := by
    rw [HW4.out]
    exact (bstep (bstep HX.out.below bc) hb2).setCell (p := ⟨T, 0, none⟩) (by have := HX.out.size; show w.heap.size ≤ T; omega) _
  clear hb2 HU HW4 HCL
  go_wp2_with (first | (go_quiet (fail)))
  go_ret3
  exact ⟨_, rfl, own_below O4.out (below_drewN (Below.refl _ _) _), below_drewN B4.out _⟩
end Go.Proofs.YtndagpompioooaaDoor

namespace Go.Proofs.YtndagpompioooaaDoor
open Go.RowKit

set_option maxRecDepth 20000 in
theorem so_short {w : World} {v : Value} {n : Nat} {y : Nat → Int} {at_ : Int} (hv : Bl w v n y) (hn : n ≤ 1048576) (ha : -9223372036854775808 ≤ at_ ∧ at_ ≤ 9223372036854775807) (h : ¬ (0 ≤ at_ ∧ at_ + 3 ≤ n)) (ys : Nat → Int) :
    Calls Tryd.prog 33 #[v, .int .i64 at_] w fun e w' => Pof w w' e 0 ys at_ 1 := by
  obtain ⟨bo, cap, rfl, hcap, hc⟩ := hv
  clear hc
  have O0 : Hid ((w.alloc (.cells #[] 3)).ownsRow w.heap.size 3 1 (.slice (some ⟨w.heap.size, 0, none⟩) 0 0) 0 (ils ys 0)) := own_empty w 3 1
  have i1 := fun W => in_any at_ 0 (n : Int) W
  by_cases h0 : 0 ≤ at_ ∧ at_ ≤ (n : Int)
  · simp only [decide_eq_true h0] at i1
    go_enter Tryd.func33, Tryd.ntmps33
    go_wp2_with (go_at_call 59; (with_reducible refine (i1 _).mono ?_); rintro e w' ⟨rfl, hw⟩; obtain rfl := hw.symm)
    go_ret3
    exact ⟨_, rfl, O0.out, below_one _ _⟩
  · simp only [decide_eq_false h0] at i1
    go_enter Tryd.func33, Tryd.ntmps33
    go_wp2_with (go_at_call 59; (with_reducible refine (i1 _).mono ?_); rintro e w' ⟨rfl, hw⟩; obtain rfl := hw.symm)
    go_ret3
    exact ⟨_, rfl, O0.out, below_one _ _⟩

set_option maxRecDepth 20000 in
set_option maxHeartbeats 4000000 in
theorem so_head {w : World} {v : Value} {n a X0 X1 X2 : Nat} {y : Nat → Int} (hv : Bl w v n y) (hn : n ≤ 1048576) (ha : a + 3 ≤ n) (e0 : y a = (X0 : Int)) (e1 : y (a + 1) = (X1 : Int)) (e2 : y (a + 2) = (X2 : Int)) (_ : X0 < 256) (b1 : X1 < 256) (b2 : X2 < 256) (h : ¬ (X0 = 70 ∧ X1 + 1 ≤ 128 ∧ X2 % 32 ≤ 30 ∧ X2 / 32 ≤ 3)) (ys : Nat → Int) :
    Calls Tryd.prog 33 #[v, .int .i64 (a : Int)] w fun e w' => Pof w w' e 0 ys (a : Int) 2 := by
  obtain ⟨bo, cap, rfl, hcap, hc⟩ := hv
  obtain ⟨b, off, rfl, hlt, hcell⟩ := hc (by omega)
  have O0 : Hid ((w.alloc (.cells #[] 3)).ownsRow w.heap.size 3 1 (.slice (some ⟨w.heap.size, 0, none⟩) 0 0) 0 (ils ys 0)) := own_empty w 3 1
  have bl : Below w.heap.size w (w.alloc (.cells #[] 3)) := below_one _ _
  have c0 := (bl.cell (p := ⟨b, off + a, none⟩) hlt).trans ((hcell a (by omega)).trans (by rw [e0]))
  have c1 := (bl.cell (p := ⟨b, off + (a + 1), none⟩) hlt).trans ((hcell (a + 1) (by omega)).trans (by rw [e1]))
  have c2 := (bl.cell (p := ⟨b, off + (a + 2), none⟩) hlt).trans ((hcell (a + 2) (by omega)).trans (by rw [e2]))
  have i1 := fun W => in_any (a : Int) 0 (n : Int) W
  simp only [decide_eq_true (show 0 ≤ (a : Int) ∧ (a : Int) ≤ (n : Int) by omega)] at i1
  clear hcell e0 e1 e2
  go_enter Tryd.func33, Tryd.ntmps33
  go_wp2_with (first | (go_at_call 59; (with_reducible refine (i1 _).mono ?_); rintro e w' ⟨rfl, hw⟩; obtain rfl := hw.symm) | (go_quiet (fail)))
  all_goals first
    | (exfalso; omega)
    | (go_ret3; exact ⟨_, rfl, own_below O0.out (below_drewN (Below.refl _ _) _), below_drewN (below_one _ _) _⟩)
end Go.Proofs.YtndagpompioooaaDoor
