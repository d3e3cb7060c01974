/- A draft. -/
import Derived.Test.YtiadfabhpagmpaaDoorPD
import Derived.Test.YtiadfabhpagmpaaDoorAW
import Derived.WalkKit
import Derived.WalkSpells
import Derived.WalkLawsBesides
import Derived.Deep.QuietTactic
import Derived.BigQuiet
import Derived.BigRegion
import Derived.Deep.Cut
namespace Go.Proofs.YtiadfabhpagmpaaDoor
open Go.RowKit

/-- The cells of nodes, of links. -/
def ndc (ns : Nat → Nd) (i : Nat) : Value := match i % 3 with | 0 => .string (ns (i / 3)).nm | 1 => .int .i64 (ns (i / 3)).kd | _ => .int .i64 (ns (i / 3)).nn
def lkc (ls : Nat → Lk) (i : Nat) : Value := match i % 2 with | 0 => .int .i64 (ls (i / 2)).fr | _ => .int .i64 (ls (i / 2)).to
def vls (f : Nat → Value) (n : Nat) : List Value := (List.range n).map f

theorem vls_length (f : Nat → Value) (n : Nat) : (vls f n).length = n := by simp [vls]
theorem vls_get {f : Nat → Value} {n k : Nat} (h : k < n) : (vls f n)[k]? = some (f k) := by simp [vls, h]
theorem vls_congr {f g : Nat → Value} {n : Nat} (h : ∀ k, k < n → f k = g k) : vls f n = vls g n := by
  unfold vls
  apply List.map_congr_left
  intro i hi
  rw [h i (List.mem_range.1 hi)]
theorem vls_snoc (f : Nat → Value) (n : Nat) : vls f (n + 1) = vls f n ++ [f n] := by simp [vls, List.range_succ]

theorem ndc_0 (ns : Nat → Nd) (k : Nat) : ndc ns (k * 3) = .string (ns k).nm := by unfold ndc; rw [show k * 3 % 3 = 0 by omega, show k * 3 / 3 = k by omega]; rfl
theorem ndc_1 (ns : Nat → Nd) (k : Nat) : ndc ns (k * 3 + 1) = .int .i64 (ns k).kd := by unfold ndc; rw [show (k * 3 + 1) % 3 = 1 by omega, show (k * 3 + 1) / 3 = k by omega]; rfl
theorem ndc_2 (ns : Nat → Nd) (k : Nat) : ndc ns (k * 3 + 2) = .int .i64 (ns k).nn := by unfold ndc; rw [show (k * 3 + 2) % 3 = 2 by omega, show (k * 3 + 2) / 3 = k by omega]; rfl
theorem lkc_0 (ls : Nat → Lk) (k : Nat) : lkc ls (k * 2) = .int .i64 (ls k).fr := by unfold lkc; rw [show k * 2 % 2 = 0 by omega, show k * 2 / 2 = k by omega]; rfl
theorem lkc_1 (ls : Nat → Lk) (k : Nat) : lkc ls (k * 2 + 1) = .int .i64 (ls k).to := by unfold lkc; rw [show (k * 2 + 1) % 2 = 1 by omega, show (k * 2 + 1) / 2 = k by omega]; rfl

/-- One more. -/
def pls {α : Type} (f : Nat → α) (n : Nat) (x : α) : Nat → α := fun i => if i = n then x else f i

theorem nd_more (ns : Nat → Nd) (n : Nat) (x : Nd) : vls (ndc ns) (n * 3) ++ [.string x.nm, .int .i64 x.kd, .int .i64 x.nn] = vls (ndc (pls ns n x)) ((n + 1) * 3) := by
  have h : ∀ k, k < n * 3 → ndc ns k = ndc (pls ns n x) k := fun k hk => by
    unfold ndc pls
    rw [if_neg (by omega)]
  rw [show (n + 1) * 3 = n * 3 + 1 + 1 + 1 by omega, vls_snoc, vls_snoc, vls_snoc, ← vls_congr h, ndc_0, ndc_1, ndc_2]
  simp [pls]

theorem lk_more (ls : Nat → Lk) (n : Nat) (x : Lk) : vls (lkc ls) (n * 2) ++ [.int .i64 x.fr, .int .i64 x.to] = vls (lkc (pls ls n x)) ((n + 1) * 2) := by
  have h : ∀ k, k < n * 2 → lkc ls k = lkc (pls ls n x) k := fun k hk => by
    unfold lkc pls
    rw [if_neg (by omega)]
  rw [show (n + 1) * 2 = n * 2 + 1 + 1 by omega, vls_snoc, vls_snoc, ← vls_congr h, lkc_0, lkc_1]
  simp [pls]

theorem nl_of_own {w : World} {B n : Nat} {v : Value} {ns : Nat → Nd} (h : w.ownsRow B 47 3 v n (vls (ndc ns) (n * 3))) : Nl w v n ns := by
  rcases h.2 with ⟨rfl, rfl⟩ | ⟨g, cap, cur, rfl, hb, hg, hc, _⟩
  · exact ⟨none, 0, rfl, Nat.le_refl _, fun h => absurd h (by omega)⟩
  · refine ⟨_, _, rfl, hc, fun h0 => ⟨g, 0, rfl, (Array.getElem?_eq_some_iff.1 hg).1, fun k hk => ?_⟩⟩
    rw [Nat.zero_add]
    exact ⟨by rw [World.ownsRow.cellAt h (k * 3) (by omega), vls_get (by omega), ndc_0], by rw [World.ownsRow.cellAt h (k * 3 + 1) (by omega), vls_get (by omega), ndc_1], by rw [World.ownsRow.cellAt h (k * 3 + 2) (by omega), vls_get (by omega), ndc_2]⟩

theorem ll_of_own {w : World} {B n : Nat} {v : Value} {ns : Nat → Lk} (h : w.ownsRow B 50 2 v n (vls (lkc ns) (n * 2))) : Ll w v n ns := by
  rcases h.2 with ⟨rfl, rfl⟩ | ⟨g, cap, cur, rfl, hb, hg, hc, _⟩
  · exact ⟨none, 0, rfl, Nat.le_refl _, fun h => absurd h (by omega)⟩
  · refine ⟨_, _, rfl, hc, fun h0 => ⟨g, 0, rfl, (Array.getElem?_eq_some_iff.1 hg).1, fun k hk => ?_⟩⟩
    rw [Nat.zero_add]
    exact ⟨by rw [World.ownsRow.cellAt h (k * 2) (by omega), vls_get (by omega), lkc_0], by rw [World.ownsRow.cellAt h (k * 2 + 1) (by omega), vls_get (by omega), lkc_1]⟩

theorem own_other {w : World} {B sz n g j : Nat} {e : TypeId} {t u : Value} {xs : List Value} (h : w.ownsRow B e sz t n xs) (hg : t.ownBlock ≠ some g) : (w.setCell ⟨g, j, none⟩ u).ownsRow B e sz t n xs := by
  refine ⟨h.1, ?_⟩
  rcases h.2 with h' | ⟨g', cap', cur, h', hb', hg', rest⟩
  · exact .inl h'
  · refine .inr ⟨g', cap', cur, h', hb', (Below.heap_setCell _ _ _ _ (fun e => hg ?_)).trans hg', rest⟩
    have e2 : g' = g := e
    rw [h', e2]
    rfl

/-- A draft of n nodes and m links in block d. -/
structure Dr (w0 wr : World) (d : Nat) (v u : Value) (n m : Nat) (ns : Nat → Nd) (ls : Nat → Lk) : Prop where
  c0 : wr.cell? ⟨d, 0, none⟩ = some v
  c1 : wr.cell? ⟨d, 1, none⟩ = some u
  fz : ∀ o, wr.frozen? ⟨d, o, none⟩ = false
  o1 : wr.ownsRow w0.heap.size 47 3 v n (vls (ndc ns) (n * 3))
  o2 : wr.ownsRow w0.heap.size 50 2 u m (vls (lkc ls) (m * 2))
  ap : Apart v u
  s1 : v.ownBlock ≠ some d
  s2 : u.ownBlock ≠ some d
  be : Below w0.heap.size w0 wr
  ge : w0.heap.size ≤ d
  lt : d < wr.heap.size

theorem Dr.call {w0 wr w' : World} {d : Nat} {v u : Value} {n m : Nat} {ns : Nat → Nd} {ls : Nat → Lk} (h : Dr w0 wr d v u n m ns ls) (hb : Below wr.heap.size wr w') : Dr w0 w' d v u n m ns ls :=
  ⟨keepc hb h.c0, keepc hb h.c1, fun o => (hb.frozen h.lt).trans (h.fz o), own_below h.o1 hb, own_below h.o2 hb, h.ap, h.s1, h.s2, bstep h.be hb, h.ge, Nat.lt_of_lt_of_le h.lt hb.size⟩

theorem Dr.app1 {w0 wr w' : World} {d : Nat} {v u v' : Value} {n m k : Nat} {ns ns' : Nat → Nd} {ls : Nat → Lk} (h : Dr w0 wr d v u n m ns ls) (ho : w'.ownsRow w0.heap.size 47 3 v' k (vls (ndc ns') (k * 3))) (hg : wr.grownBy w' v.ownBlock) (hu : v'.ownBlock = v.ownBlock ∨ v'.ownBlock = some wr.heap.size) :
    Dr w0 (w'.setCell ⟨d, 0, none⟩ v') d v' u k m ns' ls := by
  have hd : v'.ownBlock ≠ some d := by
    rcases hu with e | e
    · rw [e]; exact h.s1
    · rw [e]; intro e2; have := h.lt; injection e2 with e2; omega
  have hblk : w'.heap[d]? = wr.heap[d]? := hg.block d h.lt (fun e => h.s1 e.symm)
  have hsz : wr.heap.size ≤ w'.heap.size := hg.size
  have k1 : w'.cell? ⟨d, 1, none⟩ = some u := (World.cell?_of_block hblk).trans h.c1
  have k0 : w'.cell? ⟨d, 0, none⟩ = some v := (World.cell?_of_block hblk).trans h.c0
  have kf : ∀ o, w'.frozen? ⟨d, o, none⟩ = false := fun o => (World.frozen?_of_block hblk).trans (h.fz o)
  have ap2 : Apart u v := apart_symm h.ap
  have o2 : w'.ownsRow w0.heap.size 50 2 u m (vls (lkc ls) (m * 2)) := own_grown h.o2 hg ap2
  refine ⟨World.cell?_setCell_same' _ _ _ (by rw [k0]; rfl), ?_, fun o => by simpa using kf o, own_other ho hd, own_other o2 h.s2, apart_symm (apart_app h.o2 ap2 hu), hd, h.s2, ?_, h.ge, ?_⟩
  · rw [World.cell?_setCell_other _ _ _ _ (by simp)]; exact k1
  · exact (grown_below h.be (Nat.le_refl _) h.o1 hg).setCell (p := ⟨d, 0, none⟩) h.ge _
  · have := h.lt; simp [World.setCell]; omega

theorem Dr.app2 {w0 wr w' : World} {d : Nat} {v u u' : Value} {n m k : Nat} {ns : Nat → Nd} {ls ls' : Nat → Lk} (h : Dr w0 wr d v u n m ns ls) (ho : w'.ownsRow w0.heap.size 50 2 u' k (vls (lkc ls') (k * 2))) (hg : wr.grownBy w' u.ownBlock) (hu : u'.ownBlock = u.ownBlock ∨ u'.ownBlock = some wr.heap.size) :
    Dr w0 (w'.setCell ⟨d, 1, none⟩ u') d v u' n k ns ls' := by
  have hd : u'.ownBlock ≠ some d := by
    rcases hu with e | e
    · rw [e]; exact h.s2
    · rw [e]; intro e2; have := h.lt; injection e2 with e2; omega
  have hblk : w'.heap[d]? = wr.heap[d]? := hg.block d h.lt (fun e => h.s2 e.symm)
  have hsz : wr.heap.size ≤ w'.heap.size := hg.size
  have k1 : w'.cell? ⟨d, 1, none⟩ = some u := (World.cell?_of_block hblk).trans h.c1
  have k0 : w'.cell? ⟨d, 0, none⟩ = some v := (World.cell?_of_block hblk).trans h.c0
  have kf : ∀ o, w'.frozen? ⟨d, o, none⟩ = false := fun o => (World.frozen?_of_block hblk).trans (h.fz o)
  have o1 : w'.ownsRow w0.heap.size 47 3 v n (vls (ndc ns) (n * 3)) := own_grown h.o1 hg h.ap
  refine ⟨?_, World.cell?_setCell_same' _ _ _ (by rw [k1]; rfl), fun o => by simpa using kf o, own_other o1 h.s1, own_other ho hd, apart_app h.o1 h.ap hu, h.s1, hd, ?_, h.ge, ?_⟩
  · rw [World.cell?_setCell_other _ _ _ _ (by simp)]; exact k0
  · exact (grown_below h.be (Nat.le_refl _) h.o2 hg).setCell (p := ⟨d, 1, none⟩) h.ge _
  · have := h.lt; simp [World.setCell]; omega

end Go.Proofs.YtiadfabhpagmpaaDoor
