/- sync.Once: Do. -/
import Derived.Test.YtlcnciibjhcbiaaDoorOB
namespace Go.Proofs.YtlcnciibjhcbiaaDoor
open Go.RowKit

/-- What Do leaves where the wheel was fresh. -/
def Dn (w w' : World) (G off n : Nat) (bk : Bool) : Prop := ∃ v w1, w' = ((w1.setCell ⟨G, off + 3, none⟩ v).drew.setCell ⟨G, off, none⟩ (.int .u32 1)).setCell ⟨G, off + 1, none⟩ (.int .i32 0) ∧ Trn w1 v n bk w.heap.size ∧ Below w.heap.size (w.setCell ⟨G, off + 1, none⟩ (.int .i32 1)) w1

theorem load_any (a : Addr) (d : Int) (b : Bool) (hb : (d != 0) = b) (w : World) (h0 : w.cell? a = some (.int .u32 d)) : Calls Tryd.prog 57 #[.pointer (some a)] w fun e w' => e = .returned (.bool b) ∧ w' = w := by
  have hl := run_call_load (P := Tryd.prog) Tryd.func61 (by kernel_rfl) (by kernel_rfl) (by kernel_rfl) .u32 (by kernel_rfl) h0
  go_enter Tryd.func57, Tryd.ntmps57
  go_wp2
  go_ret
  exact ⟨rfl, rfl⟩

set_option maxRecDepth 100000 in
set_option maxHeartbeats 1600000 in
theorem slow_any {n : Nat} (hn : n = 1 ∨ n = 2 ∨ n = 4 ∨ n = 8 ∨ n = 16 ∨ n = 32 ∨ n = 64 ∨ n = 128) (bk : Bool) (w : World) (pn pb pw : Addr) (G off : Nat) (x : Value) (h1 : w.cell? pn = some (.int .i64 n)) (h2 : w.cell? pb = some (.bool bk)) (h3 : w.cell? pw = some (.pointer (some ⟨G, off, none⟩)))
    (c0 : w.cell? ⟨G, off, none⟩ = some (.int .u32 0)) (c1 : w.cell? ⟨G, off + 1, none⟩ = some (.int .i32 0)) (c3 : w.cell? ⟨G, off + 3, none⟩ = some x)
    (f0 : w.frozen? ⟨G, off, none⟩ = false) (f1 : w.frozen? ⟨G, off + 1, none⟩ = false) (f3 : w.frozen? ⟨G, off + 3, none⟩ = false)
    (l1 : pn.block < w.heap.size) (l2 : pb.block < w.heap.size) (l3 : pw.block < w.heap.size) (l4 : G < w.heap.size) (q1 : ¬ pn.block = G) (q2 : ¬ pb.block = G) (q3 : ¬ pw.block = G) :
    Calls Tryd.prog 58 #[.pointer (some ⟨G, off, none⟩), .func (.func 47) #[] #[.pointer (some pn), .pointer (some pb), .pointer (some pw)]] w fun e w' => e = .returned (.tuple #[]) ∧
      Dn w w' G off n bk := by
  have hcl := clos_any hn bk (w.setCell ⟨G, off + 1, none⟩ (.int .i32 1)) pn pb pw G off x ((World.cell?_setCell_other _ _ _ _ (fun h => q1 (by rw [← h]))).trans h1) ((World.cell?_setCell_other _ _ _ _ (fun h => q2 (by rw [← h]))).trans h2) ((World.cell?_setCell_other _ _ _ _ (fun h => q3 (by rw [← h]))).trans h3)
    ((World.cell?_setCell_other _ ⟨G, off + 1, none⟩ ⟨G, off + 3, none⟩ _ (by simp)).trans c3) (by simpa using f3) (by simpa using l1) (by simpa using l2) (by simpa using l3) (by simpa using l4) q1 q2 q3
  have hsz : (w.setCell ⟨G, off + 1, none⟩ (.int .i32 1)).heap.size = w.heap.size := by simp
  rw [hsz] at hcl
  have c0' := (World.cell?_setCell_other w ⟨G, off + 1, none⟩ ⟨G, off, none⟩ (.int .i32 1) (by simp)).trans c0
  have c1' := World.cell?_setCell_same w ⟨G, off + 1, none⟩ (.int .i32 1) c1
  have f0' : (w.setCell ⟨G, off + 1, none⟩ (.int .i32 1)).frozen? ⟨G, off, none⟩ = false := by simpa using f0
  have f1' : (w.setCell ⟨G, off + 1, none⟩ (.int .i32 1)).frozen? ⟨G, off + 1, none⟩ = false := by simpa using f1
  have hnot : ∀ (x : Bool) (w : World), (Op.unary .not (.bool x)).run Tryd.prog w = .ok (.bool (!x)) w := fun _ _ => rfl
  have hld := load_any ⟨G, off, none⟩ 0 false rfl _ c0'
  clear hn h1 h2 h3
  go_enter_defers Tryd.func58, Tryd.ntmps58
  go_wp2_with (first | (go_at_call 62; refine (lock_free ⟨G, off + 1, none⟩ _ (by go_simp) (by go_simp)).mono ?_; rintro e w' ⟨rfl, rfl⟩) | (go_at_call 57; refine hld.mono ?_; rintro e w' ⟨rfl, hw⟩; obtain rfl := hw.symm) | (go_at_call 47; refine hcl.mono ?_; rintro e w' ⟨rfl, v, w1, hw, HT, HB⟩; obtain rfl := hw.symm))
  have d0 := (HB.cell (p := ⟨G, off, none⟩) l4).trans c0'
  have d1 := (HB.cell (p := ⟨G, off + 1, none⟩) l4).trans c1'
  have e0 := (HB.frozen (p := ⟨G, off, none⟩) l4).trans f0'
  have e1 := (HB.frozen (p := ⟨G, off + 1, none⟩) l4).trans f1'
  refine leaves_cons (f := 64) (args := #[.pointer (some ⟨G, off, none⟩), .bool true]) (by simp) (by simp [go_sem]) ?_
  refine (store_deferred ⟨G, off, none⟩ (.int .u32 0) .returning _ ?_ (by simpa using e0)).mono ?_
  · exact (World.cell?_setCell_other _ ⟨G, off + 3, none⟩ ⟨G, off, none⟩ _ (by simp)).trans d0
  rintro e u' w'' ⟨rfl, rfl, rfl⟩
  refine leaves_cons (f := 63) (args := #[.pointer (some ⟨G, off + 1, none⟩)]) (by simp [settle]) (by simp [go_sem]) ?_
  refine (unlock_deferred ⟨G, off + 1, none⟩ _ _ ?_ (by simpa using e1)).mono ?_
  · refine (World.cell?_setCell_other _ ⟨G, off, none⟩ ⟨G, off + 1, none⟩ _ (by simp)).trans ?_
    rw [World.cell?_drew]
    exact (World.cell?_setCell_other _ ⟨G, off + 3, none⟩ ⟨G, off + 1, none⟩ _ (by simp)).trans d1
  rintro e u' w'' ⟨rfl, rfl, rfl⟩
  simp only [Leaves, settle]
  refine ⟨.tuple #[], by simp [results, Tryd.results58], rfl, v, w1, rfl, HT, HB⟩

set_option maxRecDepth 100000 in
set_option maxHeartbeats 1600000 in
theorem do_first {n : Nat} (hn : n = 1 ∨ n = 2 ∨ n = 4 ∨ n = 8 ∨ n = 16 ∨ n = 32 ∨ n = 64 ∨ n = 128) (bk : Bool) (w : World) (pn pb pw : Addr) (G off : Nat) (x : Value) (h1 : w.cell? pn = some (.int .i64 n)) (h2 : w.cell? pb = some (.bool bk)) (h3 : w.cell? pw = some (.pointer (some ⟨G, off, none⟩)))
    (c0 : w.cell? ⟨G, off, none⟩ = some (.int .u32 0)) (c1 : w.cell? ⟨G, off + 1, none⟩ = some (.int .i32 0)) (c3 : w.cell? ⟨G, off + 3, none⟩ = some x)
    (f0 : w.frozen? ⟨G, off, none⟩ = false) (f1 : w.frozen? ⟨G, off + 1, none⟩ = false) (f3 : w.frozen? ⟨G, off + 3, none⟩ = false)
    (l1 : pn.block < w.heap.size) (l2 : pb.block < w.heap.size) (l3 : pw.block < w.heap.size) (l4 : G < w.heap.size) (q1 : ¬ pn.block = G) (q2 : ¬ pb.block = G) (q3 : ¬ pw.block = G) :
    Calls Tryd.prog 46 #[.pointer (some ⟨G, off, none⟩), .func (.func 47) #[] #[.pointer (some pn), .pointer (some pb), .pointer (some pw)]] w fun e w' => e = .returned (.tuple #[]) ∧
      Dn w w' G off n bk := by
  have hsl := slow_any hn bk w pn pb pw G off x h1 h2 h3 c0 c1 c3 f0 f1 f3 l1 l2 l3 l4 q1 q2 q3
  have hld := load_any ⟨G, off, none⟩ 0 false rfl _ c0
  have hnot : ∀ (x : Bool) (w : World), (Op.unary .not (.bool x)).run Tryd.prog w = .ok (.bool (!x)) w := fun _ _ => rfl
  clear hn h1 h2 h3
  go_enter Tryd.func46, Tryd.ntmps46
  go_wp2_with (first | (go_at_call 58; refine hsl.mono ?_; rintro e w' ⟨rfl, HD⟩) | (go_at_call 57; refine hld.mono ?_; rintro e w' ⟨rfl, hw⟩; obtain rfl := hw.symm))
  go_end0
  exact ⟨rfl, HD⟩

theorem do_done (a : Addr) (fv : Value) (w : World) (h0 : w.cell? a = some (.int .u32 1)) :
    Calls Tryd.prog 46 #[.pointer (some a), fv] w fun e w' => e = .returned (.tuple #[]) ∧ w' = w := by
  have hld := load_any a 1 true rfl _ h0
  have hnot : ∀ (x : Bool) (w : World), (Op.unary .not (.bool x)).run Tryd.prog w = .ok (.bool (!x)) w := fun _ _ => rfl
  go_enter Tryd.func46, Tryd.ntmps46
  go_wp2_with (go_at_call 57; refine hld.mono ?_; rintro e w' ⟨rfl, hw⟩; obtain rfl := hw.symm)
  go_end0
  exact ⟨rfl, rfl⟩

/-- Nothing old has turned but in one block. -/
structure Kp (G : Nat) (w w' : World) : Prop where
  os : w'.os = w.os
  tape : w'.tape = w.tape
  output : w'.output = w.output
  size : w.heap.size ≤ w'.heap.size
  block : ∀ k, k < w.heap.size → k ≠ G → w'.heap[k]? = w.heap[k]?

theorem Kp.refl (G : Nat) (w : World) : Kp G w w := ⟨rfl, rfl, rfl, Nat.le_refl _, fun _ _ _ => rfl⟩
theorem Kp.trans {G : Nat} {a b c : World} (h : Kp G a b) (k : Kp G b c) : Kp G a c :=
  ⟨k.os.trans h.os, k.tape.trans h.tape, k.output.trans h.output, Nat.le_trans h.size k.size, fun i hi hg => (k.block i (Nat.lt_of_lt_of_le hi h.size) hg).trans (h.block i hi hg)⟩
theorem Kp.below {G : Nat} {a b c : World} (h : Kp G a b) (k : Below b.heap.size b c) : Kp G a c :=
  h.trans ⟨k.os, k.tape, k.output, k.size, fun i hi _ => k.block i hi⟩
theorem Kp.set {G : Nat} {a b : World} (h : Kp G a b) (o : Nat) (u : Value) : Kp G a (b.setCell ⟨G, o, none⟩ u) :=
  h.trans ⟨rfl, rfl, rfl, by simp [World.setCell], fun _ _ hg => Below.heap_setCell _ _ _ _ hg⟩
theorem Kp.drew {G : Nat} {a b : World} (h : Kp G a b) : Kp G a b.drew := ⟨h.os, h.tape, h.output, h.size, h.block⟩
theorem Kp.cell {G : Nat} {w w' : World} (h : Kp G w w') {p : Addr} (hp : p.block < w.heap.size) (hg : p.block ≠ G) : w'.cell? p = w.cell? p := World.cell?_of_block (w := w) (h.block p.block hp hg)
theorem Kp.frozen {G : Nat} {w w' : World} (h : Kp G w w') {p : Addr} (hp : p.block < w.heap.size) (hg : p.block ≠ G) : w'.frozen? p = w.frozen? p := World.frozen?_of_block (w := w) (h.block p.block hp hg)
theorem Kp.after {G B : Nat} {w0 w w' : World} (h : Below B w0 w) (hB : B ≤ w.heap.size) (hG : B ≤ G) (k : Kp G w w') : Below B w0 w' :=
  h.trans ⟨k.os, k.tape, k.output, k.size, fun i hi => k.block i (by omega) (by omega)⟩

theorem Trn.kp {G : Nat} {w w' : World} {v : Value} {n : Nat} {bk : Bool} {g : Nat} (h : Trn w v n bk g) (hg : g ≠ G) (k : Kp G w w') : Trn w' v n bk g := by
  obtain ⟨h0, hl, X, Y, h1⟩ := h
  exact ⟨h0, Nat.lt_of_lt_of_le hl k.size, X, Y, fun i hi => ⟨(k.cell (p := ⟨g, i, none⟩) hl hg).trans (h1 i hi).1, (h1 i hi).2⟩⟩

/-- A wheel: fresh, or done. -/
def Wh1 (w : World) (G j : Nat) (bk : Bool) : Prop :=
  (w.frozen? ⟨G, j * 4, none⟩ = false ∧ w.frozen? ⟨G, j * 4 + 1, none⟩ = false ∧ w.frozen? ⟨G, j * 4 + 3, none⟩ = false) ∧
  ((w.cell? ⟨G, j * 4, none⟩ = some (.int .u32 0) ∧ w.cell? ⟨G, j * 4 + 1, none⟩ = some (.int .i32 0) ∧ ∃ x, w.cell? ⟨G, j * 4 + 3, none⟩ = some x) ∨
   (w.cell? ⟨G, j * 4, none⟩ = some (.int .u32 1) ∧ ∃ v g, w.cell? ⟨G, j * 4 + 3, none⟩ = some v ∧ Trn w v (2 ^ j) bk g ∧ g ≠ G))

/-- The wheels. -/
def Whl (w : World) (G : Nat) (bk : Bool) : Prop := G < w.heap.size ∧ ∀ j, j < 8 → Wh1 w G j bk

theorem Wh1.same {w w' : World} {G j : Nat} {bk : Bool} (h : Wh1 w G j bk) (k : Kp G w w') (hc : ∀ i, i = j * 4 ∨ i = j * 4 + 1 ∨ i = j * 4 + 3 → w'.cell? ⟨G, i, none⟩ = w.cell? ⟨G, i, none⟩) (hf : ∀ i, w'.frozen? ⟨G, i, none⟩ = w.frozen? ⟨G, i, none⟩) : Wh1 w' G j bk := by
  obtain ⟨⟨f0, f1, f3⟩, h⟩ := h
  refine ⟨⟨(hf _).trans f0, (hf _).trans f1, (hf _).trans f3⟩, ?_⟩
  rw [hc _ (.inl rfl), hc _ (.inr (.inl rfl)), hc _ (.inr (.inr rfl))]
  rcases h with h | ⟨h0, v, g, h3, ht, hg⟩
  · exact .inl h
  · exact .inr ⟨h0, v, g, h3, ht.kp hg k, hg⟩

theorem Whl.below {w w' : World} {G : Nat} {bk : Bool} (h : Whl w G bk) (hb : Below w.heap.size w w') : Whl w' G bk :=
  ⟨Nat.lt_of_lt_of_le h.1 hb.size, fun j hj => (h.2 j hj).same ((Kp.refl G w).below hb) (fun i _ => hb.cell (p := ⟨G, i, none⟩) h.1) (fun i => hb.frozen (p := ⟨G, i, none⟩) h.1)⟩

theorem Dn.facts {w w' : World} {G j n : Nat} {bk : Bool} (h : Dn w w' G (j * 4) n bk) (hj : j < 8) (hn : n = 2 ^ j) (hW : Whl w G bk) (c0 : w.cell? ⟨G, j * 4, none⟩ = some (.int .u32 0)) (c1 : w.cell? ⟨G, j * 4 + 1, none⟩ = some (.int .i32 0)) {x : Value} (c3 : w.cell? ⟨G, j * 4 + 3, none⟩ = some x) :
    ∃ v, w'.cell? ⟨G, j * 4 + 3, none⟩ = some v ∧ Trn w' v n bk w.heap.size ∧ Whl w' G bk ∧ Kp G w w' := by
  obtain ⟨v, w1, rfl, ht, hb⟩ := h
  obtain ⟨hG, hall⟩ := hW
  have k0 : Kp G w (w.setCell ⟨G, j * 4 + 1, none⟩ (.int .i32 1)) := (Kp.refl G w).set _ _
  have k1 : Kp G w w1 := k0.below (by simpa using hb)
  have k2 : Kp G w1 (((w1.setCell ⟨G, j * 4 + 3, none⟩ v).drew.setCell ⟨G, j * 4, none⟩ (.int .u32 1)).setCell ⟨G, j * 4 + 1, none⟩ (.int .i32 0)) := ((((Kp.refl G w1).set _ _).drew).set _ _).set _ _
  have d3 : w1.cell? ⟨G, j * 4 + 3, none⟩ = some x := (hb.cell (p := ⟨G, j * 4 + 3, none⟩) hG).trans ((World.cell?_setCell_other _ ⟨G, j * 4 + 1, none⟩ ⟨G, j * 4 + 3, none⟩ _ (by simp)).trans c3)
  have d0 : w1.cell? ⟨G, j * 4, none⟩ = some (.int .u32 0) := (hb.cell (p := ⟨G, j * 4, none⟩) hG).trans ((World.cell?_setCell_other _ ⟨G, j * 4 + 1, none⟩ ⟨G, j * 4, none⟩ _ (by simp)).trans c0)
  have e3 : (((w1.setCell ⟨G, j * 4 + 3, none⟩ v).drew.setCell ⟨G, j * 4, none⟩ (.int .u32 1)).setCell ⟨G, j * 4 + 1, none⟩ (.int .i32 0)).cell? ⟨G, j * 4 + 3, none⟩ = some v := by
    rw [World.cell?_setCell_other _ ⟨G, j * 4 + 1, none⟩ ⟨G, j * 4 + 3, none⟩ _ (by simp), World.cell?_setCell_other _ ⟨G, j * 4, none⟩ ⟨G, j * 4 + 3, none⟩ _ (by simp), World.cell?_drew]
    exact World.cell?_setCell_same _ _ _ d3
  have e0 : (((w1.setCell ⟨G, j * 4 + 3, none⟩ v).drew.setCell ⟨G, j * 4, none⟩ (.int .u32 1)).setCell ⟨G, j * 4 + 1, none⟩ (.int .i32 0)).cell? ⟨G, j * 4, none⟩ = some (.int .u32 1) := by
    rw [World.cell?_setCell_other _ ⟨G, j * 4 + 1, none⟩ ⟨G, j * 4, none⟩ _ (by simp)]
    refine World.cell?_setCell_same (u := .int .u32 0) _ _ _ ?_
    rw [World.cell?_drew, World.cell?_setCell_other _ ⟨G, j * 4 + 3, none⟩ ⟨G, j * 4, none⟩ _ (by simp)]
    exact d0
  have hfz : ∀ i, (((w1.setCell ⟨G, j * 4 + 3, none⟩ v).drew.setCell ⟨G, j * 4, none⟩ (.int .u32 1)).setCell ⟨G, j * 4 + 1, none⟩ (.int .i32 0)).frozen? ⟨G, i, none⟩ = w.frozen? ⟨G, i, none⟩ := fun i => by
    have := hb.frozen (p := ⟨G, i, none⟩) hG
    simpa using this
  have hoc : ∀ i, i ≠ j * 4 → i ≠ j * 4 + 1 → i ≠ j * 4 + 3 → (((w1.setCell ⟨G, j * 4 + 3, none⟩ v).drew.setCell ⟨G, j * 4, none⟩ (.int .u32 1)).setCell ⟨G, j * 4 + 1, none⟩ (.int .i32 0)).cell? ⟨G, i, none⟩ = w.cell? ⟨G, i, none⟩ := fun i h0 h1 h3 => by
    rw [World.cell?_setCell_other _ ⟨G, j * 4 + 1, none⟩ ⟨G, i, none⟩ _ (by simp [*]), World.cell?_setCell_other _ ⟨G, j * 4, none⟩ ⟨G, i, none⟩ _ (by simp [*]), World.cell?_drew, World.cell?_setCell_other _ ⟨G, j * 4 + 3, none⟩ ⟨G, i, none⟩ _ (by simp [*]), hb.cell (p := ⟨G, i, none⟩) hG, World.cell?_setCell_other _ ⟨G, j * 4 + 1, none⟩ ⟨G, i, none⟩ _ (by simp [*])]
  have k3 := k1.trans k2
  have ht2 := ht.kp (G := G) (by omega) k2
  refine ⟨v, e3, ht2, ⟨Nat.lt_of_lt_of_le hG k3.size, fun i hi => ?_⟩, k3⟩
  by_cases hij : i = j
  · subst hij
    obtain ⟨⟨f0, f1, f3⟩, _⟩ := hall i hi
    exact ⟨⟨(hfz _).trans f0, (hfz _).trans f1, (hfz _).trans f3⟩, .inr ⟨e0, v, w.heap.size, e3, hn ▸ ht2, by omega⟩⟩
  · exact (hall i hi).same k3 (fun q hq => hoc q (by omega) (by omega) (by omega)) hfz
end Go.Proofs.YtlcnciibjhcbiaaDoor
