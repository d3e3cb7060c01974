/- Pieces in plain numbers and in memory. -/
import Derived.Test.YtlcnciibjhcbiaaDoorQB
import Derived.Test.YtlcnciibjhcbiaaDoorQD
namespace Go.Proofs.YtlcnciibjhcbiaaDoor
open Go.RowKit

/-- How many pieces there are. -/
def npc (n c h : Nat) : Nat := if n < c then 0 else (n - c) / h + 1

theorem npc_lt {n c h q : Nat} (hh : 0 < h) : q * h + c ≤ n ↔ q < npc n c h := by
  unfold npc
  by_cases h1 : n < c
  · rw [if_pos h1]; omega
  · rw [if_neg h1, Nat.lt_succ_iff, Nat.le_div_iff_mul_le hh]; omega

theorem npc_le {n c h : Nat} (hc : 1 ≤ c) : npc n c h ≤ n := by
  unfold npc
  by_cases h1 : n < c
  · rw [if_pos h1]; omega
  · rw [if_neg h1]
    have := Nat.div_le_self (n - c) h
    omega

theorem npc_at {n c h q : Nat} (hh : 0 < h) (hh2 : h ≤ 128) (hn : n ≤ 128) (hq : q ≤ npc n c h) : q * h ≤ 256 := by
  cases q with
  | zero => rw [Nat.zero_mul]; omega
  | succ q =>
    have := (npc_lt (n := n) (c := c) hh).2 (show q < npc n c h by omega)
    rw [Nat.add_mul, Nat.one_mul]
    omega

/-- The pieces. -/
def pcC (j h : Nat) (xs ys : Nat → Nat) (i k : Nat) : Option Nat × Option Nat := fby (2 ^ j) false (fast false j (fun t => (cn (xs (i * h + t)), cn (ys (i * h + t)))) k)

/-- Pieces as they stand in memory of their own. -/
def Pcs (w : World) (B : Nat) (o : Value) (n c : Nat) (C : Nat → Nat → Option Nat × Option Nat) : Prop := ∃ gs cs F X Y, Pgr w B o n c gs cs F ∧ Hld n c F X Y ∧ ∀ i, i < n → ∀ k, k < c → (cn (X i k), cn (Y i k)) = C i k

theorem Pcs.keep {w w' : World} {B n c : Nat} {o : Value} {C : Nat → Nat → Option Nat × Option Nat} (h : Pcs w B o n c C) (hb : ∀ g, B ≤ g → g < w.heap.size → w'.heap[g]? = w.heap[g]?) : Pcs w' B o n c C := by
  obtain ⟨gs, cs, F, X, Y, h1, h2, h3⟩ := h
  exact ⟨gs, cs, F, X, Y, h1.keep hb, h2, h3⟩
theorem Pcs.call {w w' : World} {B n c : Nat} {o : Value} {C : Nat → Nat → Option Nat × Option Nat} (h : Pcs w B o n c C) (hb : Below w.heap.size w w') : Pcs w' B o n c C := h.keep (fun g _ hl => hb.block g hl)
theorem Pcs.base {w : World} {B B' n c : Nat} {o : Value} {C : Nat → Nat → Option Nat × Option Nat} (h : Pcs w B o n c C) (hB : B' ≤ B) : Pcs w B' o n c C := by
  obtain ⟨gs, cs, F, X, Y, h1, h2, h3⟩ := h
  exact ⟨gs, cs, F, X, Y, h1.base hB, h2, h3⟩
theorem Pcs.open {w : World} {B n c : Nat} {o : Value} {C : Nat → Nat → Option Nat × Option Nat} (h : Pcs w B o n c C) : ∃ ao cap, o = .slice ao n cap := by
  obtain ⟨gs, cs, F, X, Y, h1, h2, h3⟩ := h
  obtain ⟨ao, cap, h, _⟩ := h1.open
  exact ⟨ao, cap, h⟩

theorem own_hold {w : World} {B c : Nat} {u : Value} {L : List Value} {X Y : Nat → Nat} (h0 : 0 < c) (h : w.ownsRow B 40 2 u c L) (hf : Fp w u c X Y) : ∃ g cap f, u = .slice (some ⟨g, 0, none⟩) c cap ∧ B ≤ g ∧ g < w.heap.size ∧ Ow w B g c cap f ∧ ∀ k, k < c → f (k * 2) = .float .f64 (X k) ∧ f (k * 2 + 1) = .float .f64 (Y k) := by
  rcases ow_of_own h with ⟨h1, _⟩ | ⟨g, cap, f, rfl, hb, hl, ho⟩
  · omega
  · obtain ⟨ao, cap', e, _, hc⟩ := hf
    obtain ⟨b, off, rfl, _, hcell⟩ := hc h0
    simp only [Value.slice.injEq, Option.some.injEq, Addr.mk.injEq] at e
    obtain ⟨⟨rfl, rfl, _⟩, _, rfl⟩ := e
    refine ⟨g, cap, f, rfl, hb, hl, ho, fun i hi => ?_⟩
    obtain ⟨c0, c1⟩ := hcell i hi
    have d0 := ho.cell (j := i * 2) (by omega)
    have d1 := ho.cell (j := i * 2 + 1) (by omega)
    rw [Nat.zero_add] at c0 c1
    exact ⟨Option.some.inj (d0.symm.trans c0), Option.some.inj (d1.symm.trans c1)⟩

/-- One piece more. -/
theorem Pcs.app {w W : World} {B q c : Nat} {o u : Value} {L : List Value} {X Y : Nat → Nat} {C : Nat → Nat → Option Nat × Option Nat} (h : Pcs W B o q c C) (hk : ∀ g, B ≤ g → g < W.heap.size → w.heap[g]? = W.heap[g]?) (hsz : W.heap.size ≤ w.heap.size) (hB : B ≤ W.heap.size) (h0 : 0 < c) (ho : w.ownsRow W.heap.size 40 2 u c L) (hf : Fp w u c X Y) (hv : ∀ k, k < c → (cn (X k), cn (Y k)) = C q k) (hq : q ≤ 128) :
    ∃ v' w', (Builtin.append_ #[31, 31] 31 #[o, .slice (some ⟨w.heap.size, 0, none⟩) 1 1]).run Tryd.prog (w.alloc (.cells #[u] 24)) = .ok v' w' ∧ Pcs w' B v' (q + 1) c C ∧ Below B w w' ∧ (w.alloc (.cells #[u] 24)).grownBy w' o.ownBlock := by
  obtain ⟨gs, cs, F, X', Y', h1, h2, h3⟩ := h
  obtain ⟨g, cap, f, rfl, hb, hl, how, hfx⟩ := own_hold h0 ho hf
  obtain ⟨v', w', ha, hp, hbl, hgr⟩ := app_row (h1.keep hk) (own_base how hB) (fun i hi e => by have := own_ltg (h1.rows i hi); omega) (by omega) (Nat.le_trans hB hsz)
  have hbl2 : Below B w w' := ((below_one w _).mono (Nat.le_trans hB hsz)).trans hbl
  refine ⟨v', w', ha, ⟨_, _, _, fun i => if i = q then X else X' i, fun i => if i = q then Y else Y' i, hp, fun i hi k hk => ?_, fun i hi k hk => ?_⟩, hbl2, hgr⟩
  · by_cases e : i = q
    · simp only [if_pos e]; exact hfx k hk
    · simp only [if_neg e]; exact h2 i (by omega) k hk
  · by_cases e : i = q
    · simp only [if_pos e]; rw [e]; exact hv k hk
    · simp only [if_neg e]; exact h3 i (by omega) k hk

theorem Trn.grown {w w' : World} {go : Nat} {v : Value} {n : Nat} {bk : Bool} {g : Nat} (h : Trn w v n bk g) (_ : 0 < n) (hgr : w.grownBy w' (some go)) (hg : g ≠ go) : Trn w' v n bk g := by
  obtain ⟨h0, hl, X, Y, h1⟩ := h
  exact ⟨h0, Nat.lt_of_lt_of_le hl hgr.size, X, Y, fun i hi => ⟨(World.cell?_of_block (w := w) (a := ⟨g, i, none⟩) (hgr.block g hl (fun e => hg (by injection e)))).trans (h1 i hi).1, (h1 i hi).2⟩⟩

theorem Trn.ne {w : World} {go : Nat} {v : Value} {n : Nat} {bk : Bool} {g : Nat} (h : Trn w v n bk g) (hn : 0 < n) (hs : ∀ u, w.cell? ⟨go, 0, none⟩ = some u → ∃ a l c, u = .slice a l c) : g ≠ go := by
  rintro rfl
  obtain ⟨h0, hl, X, Y, h1⟩ := h
  obtain ⟨a, l, c, e⟩ := hs _ (h1 0 hn).1
  cases e

/-- Wheels, where a list of rows has grown. -/
theorem Hv.grown {w w' : World} {G go : Nat} {pb : Addr} {bk : Bool} (h : Hv w G pb bk) (hgr : w.grownBy w' (some go)) (hs : ∀ u, w.cell? ⟨go, 0, none⟩ = some u → ∃ a l c, u = .slice a l c) (n1 : go ≠ G) (n2 : go ≠ pb.block) (n3 : go ≠ 1) : Hv w' G pb bk := by
  have hb : ∀ p : Addr, p.block < w.heap.size → p.block ≠ go → w'.cell? p = w.cell? p := fun p hp hg => World.cell?_of_block (w := w) (hgr.block p.block hp (fun e => hg (by injection e)))
  have hf : ∀ p : Addr, p.block < w.heap.size → p.block ≠ go → w'.frozen? p = w.frozen? p := fun p hp hg => World.frozen?_of_block (w := w) (hgr.block p.block hp (fun e => hg (by injection e)))
  have hG := h.wh.1
  refine ⟨⟨Nat.lt_of_lt_of_le hG hgr.size, fun j hj => ?_⟩, ⟨Nat.lt_of_lt_of_le h.br.size hgr.size, fun i hi => (hb ⟨1, i, none⟩ h.br.size (Ne.symm n3)).trans (h.br.cells i hi)⟩, h.g1, (hb pb (World.block_lt_of_cell? w _ h.cb) (Ne.symm n2)).trans h.cb, h.nb⟩
  obtain ⟨⟨f0, f1, f3⟩, hw⟩ := h.wh.2 j hj
  have g0 : ∀ i, w'.cell? ⟨G, i, none⟩ = w.cell? ⟨G, i, none⟩ := fun i => hb ⟨G, i, none⟩ hG (Ne.symm n1)
  have z0 : ∀ i, w'.frozen? ⟨G, i, none⟩ = w.frozen? ⟨G, i, none⟩ := fun i => hf ⟨G, i, none⟩ hG (Ne.symm n1)
  refine ⟨⟨(z0 _).trans f0, (z0 _).trans f1, (z0 _).trans f3⟩, ?_⟩
  rcases hw with ⟨c0, c1, x, c3⟩ | ⟨c0, v, g, c3, ht, hg⟩
  · exact .inl ⟨(g0 _).trans c0, (g0 _).trans c1, x, (g0 _).trans c3⟩
  · exact .inr ⟨(g0 _).trans c0, v, g, (g0 _).trans c3, ht.grown (Nat.two_pow_pos j) hgr (ht.ne (Nat.two_pow_pos j) hs), hg⟩

/-- The first cell of a list of rows. -/
theorem Pcs.first {w : World} {B q c g oc : Nat} {C : Nat → Nat → Option Nat × Option Nat} (h : Pcs w B (.slice (some ⟨g, 0, none⟩) q oc) q c C) (h0 : q = 0 → oc = 0) : ∀ u, w.cell? ⟨g, 0, none⟩ = some u → ∃ a l c, u = .slice a l c := by
  intro u hu
  obtain ⟨gs, cs, F, X, Y, h1, _, _⟩ := h
  by_cases hq : 0 < q
  · rw [h1.at hq] at hu
    injection hu with hu
    exact ⟨_, _, _, hu.symm⟩
  · have hoc := h0 (by omega)
    rcases h1.row.2 with ⟨h', _⟩ | ⟨g', cap', cur, h', _, hg, _, _, hcs, _⟩
    · cases h'
    · injection h' with e1 _ e2
      injection e1 with e3
      injection e3 with e4
      subst e4
      have hz : cur = #[] := Array.eq_empty_of_size_eq_zero (by rw [hcs]; omega)
      subst hz
      simp [World.cell?, hg] at hu

theorem fp_cut {w : World} {b off n cap m c : Nat} {xs ys : Nat → Nat} (hv : Fp w (.slice (some ⟨b, off, none⟩) n cap) n xs ys) (hm : m + c ≤ n) (hn : 0 < n) : Fp w (.slice (some ⟨b, off + m * 2, none⟩) c (cap - m)) c (fun t => xs (m + t)) (fun t => ys (m + t)) := by
  obtain ⟨ao, cap', e, hcap, hc⟩ := hv
  obtain ⟨b', off', e2, hlt, hcell⟩ := hc hn
  subst e2
  simp only [Value.slice.injEq, Option.some.injEq, Addr.mk.injEq] at e
  obtain ⟨⟨rfl, rfl, _⟩, _, rfl⟩ := e
  refine ⟨_, _, rfl, by omega, fun _ => ⟨b, off + m * 2, rfl, hlt, fun k hk => ?_⟩⟩
  have := hcell (m + k) (by omega)
  rw [Nat.add_mul, ← Nat.add_assoc] at this
  exact this

/-- Wrong arguments. -/
abbrev GPc (n : Nat) (c h : Int) : Prop := H8 c ∧ (1 ≤ h ∧ h ≤ 128) ∧ n ≤ 128

/-- What Pieces answers. -/
def Ppe (w w' : World) (e : Ending) (n c : Nat) (C : Nat → Nat → Option Nat × Option Nat) (ok : Bool) : Prop := ∃ u, e = .returned (.tuple #[u, .bool ok]) ∧ Pcs w' w.heap.size u n c C ∧ Below w.heap.size w w'

theorem Pcs.start (X : World) (c : Nat) (C : Nat → Nat → Option Nat × Option Nat) : Pcs (X.alloc (.cells #[] 24)) X.heap.size (.slice (some ⟨X.heap.size, 0, none⟩) 0 0) 0 c C :=
  ⟨fun _ => 0, fun _ => 0, fun _ _ => .nilFunc, fun _ _ => 0, fun _ _ => 0, Pgr.start X c _ _ _, fun i hi => by omega, fun i hi => by omega⟩
end Go.Proofs.YtlcnciibjhcbiaaDoor
