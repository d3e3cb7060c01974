/- Push: what stands while the model pushes. -/
import Derived.Test.YtphnoghnoacfiaaPE
namespace Go.Proofs.Ytphnoghnoacfiaa
open Go.RowKit

/-- The ring in block g, its cells, what was told, the answer's block. -/
structure Sp (w W : World) (g : Nat) (cv ov : Value) (n k : Nat) (f t : Nat → Int) (p : Nat) : Prop where
  rg : Rg W g cv (.int .i64 (p : Int))
  oc : W.ownsRow w.heap.size 3 1 cv n (ils f n)
  oo : W.ownsRow w.heap.size 3 1 ov k (ils t k)
  ap : Apart cv ov
  nc : cv.ownBlock ≠ some g
  no : ov.ownBlock ≠ some g
  rr : Rg W (w.heap.size + 1) (.slice none 0 0) (.int .i64 0)
  rc : cv.ownBlock ≠ some (w.heap.size + 1)
  ro : ov.ownBlock ≠ some (w.heap.size + 1)
  ng : g ≠ w.heap.size + 1
  gl : w.heap.size ≤ g
  bel : Below w.heap.size w W

theorem Sp.below {w W W' : World} {g n k p : Nat} {cv ov : Value} {f t : Nat → Int} (h : Sp w W g cv ov n k f t p) (hb : Below W.heap.size W W') : Sp w W' g cv ov n k f t p :=
  ⟨h.rg.call hb, own_below h.oc hb, own_below h.oo hb, h.ap, h.nc, h.no, h.rr.call hb, h.rc, h.ro, h.ng, h.gl, bstep h.bel hb⟩

theorem apart_app {w : World} {B s n : Nat} {e : TypeId} {t o v' : Value} {xs : List Value} (ht : w.ownsRow B e s t n xs) (ha : Apart t o) (hu : v'.ownBlock = o.ownBlock ∨ v'.ownBlock = some w.heap.size) : Apart t v' := by
  rcases hu with hu | hu
  · unfold Apart at *
    rw [hu]
    exact ha
  · refine .inr (fun e => ?_)
    rw [hu] at e
    have := World.ownsRow.lt ht _ e
    omega

theorem own_grown {w w' : World} {B s n : Nat} {e : TypeId} {t o : Value} {xs : List Value} (h : w.ownsRow B e s t n xs) (hg : w.grownBy w' o.ownBlock) (ha : Apart t o) : w'.ownsRow B e s t n xs := by
  refine ⟨h.1, ?_⟩
  rcases h.2 with h' | ⟨g', cap', cur, h', hb', hg', rest⟩
  · exact .inl h'
  · refine .inr ⟨g', cap', cur, h', hb', (hg.block g' (Array.getElem?_eq_some_iff.1 hg').1 (fun e => ?_)).trans hg', rest⟩
    subst h'
    rcases ha with ha | ha
    · cases ha
    · exact ha e

theorem Rg.grown {W W' : World} {g : Nat} {x y : Value} {r : Option Nat} (h : Rg W g x y) (hg : W.grownBy W' r) (hr : r ≠ some g) : Rg W' g x y := h.block (hg.block g h.lt (fun e => hr e.symm))

theorem Sp.grown {w W W' : World} {g n k p : Nat} {cv ov ov' : Value} {f t : Nat → Int} (h : Sp w W g cv ov n k f t p) (ho : W'.ownsRow w.heap.size 3 1 ov' (k + 1) (ils t (k + 1))) (hg : W.grownBy W' ov.ownBlock) (hk : ov'.ownBlock = ov.ownBlock ∨ (ov'.ownBlock = some W.heap.size ∧ Below W.heap.size W W')) : Sp w W' g cv ov' n (k + 1) f t p := by
  have l1 := h.rg.lt
  have l2 := h.rr.lt
  refine ⟨h.rg.grown hg h.no, own_grown h.oc hg h.ap, ho, apart_app h.oc h.ap (hk.imp id And.left), h.nc, ?_, h.rr.grown hg h.ro, h.rc, ?_, h.ng, h.gl, grown_below h.bel (Nat.le_refl _) h.oo hg⟩
  · rcases hk with hk | ⟨hk, _⟩
    · rw [hk]; exact h.no
    · rw [hk]; intro e; have := Option.some.inj e; omega
  · rcases hk with hk | ⟨hk, _⟩
    · rw [hk]; exact h.ro
    · rw [hk]; intro e; have := Option.some.inj e; omega

theorem Sp.put {w W : World} {g n c P k p : Nat} {ov : Value} {f t : Nat → Int} (h : Sp w W g (.slice (some ⟨P, 0, none⟩) n c) ov n k f t p) (q : Nat) (x : Int) : Sp w (W.setCell ⟨P, q, none⟩ (.int .i64 x)) g (.slice (some ⟨P, 0, none⟩) n c) ov n k (fun i => if i = q then x else f i) t p := by
  have hk : Kd (fun j => j = P) W (W.setCell ⟨P, q, none⟩ (.int .i64 x)) := (Kd.refl (fun j => j = P) W).put (.inl rfl) q _
  have st := (World.ownsRow.stored h.oc q (.int .i64 x)).1
  rw [ils_put] at st
  refine ⟨h.rg.other (fun e => h.nc (by rw [e]; rfl)) _ _, st, own_kd h.oo hk (fun j hj hd => ?_), h.ap, h.nc, h.no, h.rr.other (fun e => h.rc (by rw [e]; rfl)) _ _, h.rc, h.ro, h.ng, h.gl, h.bel.setCell (p := ⟨P, q, none⟩) (World.ownsRow.lt h.oc P rfl).1 _⟩
  obtain rfl : j = P := hd
  rcases h.ap with e | e
  · cases e
  · exact e (by rw [hj]; rfl)

theorem Sp.at {w W : World} {g n k p : Nat} {cv ov : Value} {f t : Nat → Int} (h : Sp w W g cv ov n k f t p) (q : Nat) : Sp w (W.setCell ⟨g, 1, none⟩ (.int .i64 (q : Int))) g cv ov n k f t q := by
  have hk : Kd (fun j => j = g) W (W.setCell ⟨g, 1, none⟩ (.int .i64 (q : Int))) := (Kd.refl (fun j => j = g) W).put (.inl rfl) 1 _
  refine ⟨h.rg.put1 _, own_kd h.oc hk (fun j hj hd => ?_), own_kd h.oo hk (fun j hj hd => ?_), h.ap, h.nc, h.no, h.rr.other (fun e => h.ng e.symm) _ _, h.rc, h.ro, h.ng, h.gl, h.bel.setCell (p := ⟨g, 1, none⟩) h.gl _⟩
  · obtain rfl : j = g := hd
    exact h.nc hj
  · obtain rfl : j = g := hd
    exact h.no hj

/-- Ahead of the ring. -/
structure Pre (w X : World) : Prop where
  rr : Rg X (w.heap.size + 1) (.slice none 0 0) (.int .i64 0)
  oo : X.ownsRow w.heap.size 3 1 (.slice (some ⟨w.heap.size + 2, 0, none⟩) 0 0) 0 []
  bel : Below w.heap.size w X

theorem Pre.below {w X X' : World} (h : Pre w X) (hb : Below X.heap.size X X') : Pre w X' := ⟨h.rr.call hb, own_below h.oo hb, bstep h.bel hb⟩

theorem Pre.grown {w X X' : World} {e : Nat} (h : Pre w X) (hg : X.grownBy X' (some e)) (he : w.heap.size + 2 < e) : Pre w X' :=
  ⟨h.rr.grown hg (fun x => by have := Option.some.inj x; omega), own_grown (o := .slice (some ⟨e, 0, none⟩) 0 0) h.oo hg (.inr (fun x => by have h9 : w.heap.size + 2 = e := Option.some.inj x; omega)), h.bel.grown hg h.bel.size (fun k hk => by have := Option.some.inj hk; omega)⟩

theorem Pre.make {w X : World} {v : Value} {n o B : Nat} {cs : Nat → Int} (h : Pre w X) (ho : X.ownsRow B 3 1 v n (ils cs n)) (hB : w.heap.size + 3 ≤ B) (t : Nat → Int) : Sp w (X.alloc (.cells #[v, .int .i64 (o : Int)] 26)) X.heap.size v (.slice (some ⟨w.heap.size + 2, 0, none⟩) 0 0) n 0 cs t o := by
  have ba := below_one X (.cells #[v, .int .i64 (o : Int)] 26)
  have l1 := h.rr.lt
  have l2 := (World.ownsRow.lt h.oo (w.heap.size + 2) rfl).2
  have hs := h.bel.size
  refine ⟨Rg.new _ _ _ _, own_base (own_below ho ba) (by omega), own_below h.oo ba, ?_, ?_, ?_, h.rr.call ba, ?_, ?_, by omega, hs, bstep h.bel ba⟩
  · refine .inr (fun e => ?_)
    have h9 : B ≤ w.heap.size + 2 := (World.ownsRow.lt ho (w.heap.size + 2) e).1
    omega
  · intro e
    have := (World.ownsRow.lt ho _ e).2
    omega
  · intro e
    have h9 : w.heap.size + 2 = X.heap.size := Option.some.inj e
    omega
  · intro e
    have := (World.ownsRow.lt ho _ e).1
    omega
  · intro e
    have h9 : w.heap.size + 2 = w.heap.size + 1 := Option.some.inj e
    omega

theorem Pre.make2 {w X : World} {v : Value} {n o B g : Nat} {cs : Nat → Int} (h : Pre w X) (ho : X.ownsRow B 3 1 v n (ils cs n)) (hB : w.heap.size + 3 ≤ B) (hg : Rg X g (.slice none 0 0) (.int .i64 0)) (hgB : w.heap.size + 3 ≤ g) (hne : v.ownBlock ≠ some g) (t : Nat → Int) : Sp w ((X.setCell ⟨g, 0, none⟩ v).setCell ⟨g, 1, none⟩ (.int .i64 (o : Int))) g v (.slice (some ⟨w.heap.size + 2, 0, none⟩) 0 0) n 0 cs t o := by
  have hk : Kd (fun j => j = g) X ((X.setCell ⟨g, 0, none⟩ v).setCell ⟨g, 1, none⟩ (.int .i64 (o : Int))) := ((Kd.refl (fun j => j = g) X).put (.inl rfl) 0 _).put (.inl rfl) 1 _
  refine ⟨(hg.put0 _).put1 _, own_base (own_kd ho hk (fun j hj hd => ?_)) (by omega), own_kd h.oo hk (fun j hj hd => ?_), ?_, hne, ?_, (h.rr.other (by omega) _ _).other (by omega) _ _, ?_, ?_, by omega, by omega, (h.bel.setCell (p := ⟨g, 0, none⟩) (by show w.heap.size ≤ g; omega) _).setCell (p := ⟨g, 1, none⟩) (by show w.heap.size ≤ g; omega) _⟩
  · obtain rfl : j = g := hd
    exact hne hj
  · obtain rfl : j = g := hd
    have h9 : w.heap.size + 2 = j := Option.some.inj hj
    omega
  · refine .inr (fun e => ?_)
    have h9 : B ≤ w.heap.size + 2 := (World.ownsRow.lt ho (w.heap.size + 2) e).1
    omega
  · intro e
    have h9 : w.heap.size + 2 = g := Option.some.inj e
    omega
  · intro e
    have := (World.ownsRow.lt ho _ e).1
    omega
  · intro e
    have h9 : w.heap.size + 2 = w.heap.size + 1 := Option.some.inj e
    omega
end Go.Proofs.Ytphnoghnoacfiaa
