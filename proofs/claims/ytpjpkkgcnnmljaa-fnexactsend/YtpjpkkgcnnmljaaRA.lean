/- Arrays of bytes, whole. -/
import Derived.Test.YtpjpkkgcnnmljaaGS
import Derived.Deep.MidRow
namespace Go.Proofs.Ytpjpkkgcnnmljaa
open Go.RowKit

/-- A result that lies in a cell. -/
theorem results_one {fn : Func} {p : Tmp} {ty : TypeId} {tmps : Array Value} {P : Program} {w : World} {x : Addr} {v : Value} (h : fn.results = #[.cell p ty]) (hp : tmps.getD p undef = .pointer (some x)) (hl : (loadVar ty x).run P w = .ok v w) : (results fn tmps).run P w = .ok v w := by
  have ha : (asAddr (tmps[p]?.getD undef)).run P w = .ok x w := by
    rw [← Array.getD_eq_getD_getElem?, hp]
    rfl
  simp only [results, h]
  simp [Sem.run_bind, Result.andThen, ha, hl]

/-- An array of seventeen bytes in a block. -/
structure Pa (W : World) (G : Nat) (f : Nat → Nat) : Prop where
  c : ∀ k, k < 17 → W.cell? ⟨G, k, none⟩ = some (.int .u8 ((f k : Nat) : Int))
  z : ∀ k, k < 17 → W.frozen? ⟨G, k, none⟩ = false

theorem Pa.lt {W : World} {G : Nat} {f : Nat → Nat} (h : Pa W G f) : G < W.heap.size := World.block_lt_of_cell? W _ (h.c 0 (by omega))
theorem Pa.below {W W' : World} {G : Nat} {f : Nat → Nat} (h : Pa W G f) (hb : Below W.heap.size W W') : Pa W' G f :=
  ⟨fun k hk => (hb.cell h.lt).trans (h.c k hk), fun k hk => (hb.frozen h.lt).trans (h.z k hk)⟩
theorem Pa.block {W W' : World} {G : Nat} {f : Nat → Nat} (h : Pa W G f) (hb : W'.heap[G]? = W.heap[G]?) : Pa W' G f :=
  ⟨fun k hk => (World.cell?_of_block (w := W) hb).trans (h.c k hk), fun k hk => (World.frozen?_of_block (w := W) hb).trans (h.z k hk)⟩
theorem Pa.put {W : World} {G j : Nat} {f : Nat → Nat} (h : Pa W G f) (hj : j < 17) (y : Nat) : Pa (W.setCell ⟨G, j, none⟩ (.int .u8 (y : Int))) G (fun k => if k = j then y else f k) := by
  have c1 := h.c j hj
  refine ⟨fun k hk => ?_, fun k hk => ?_⟩
  · by_cases e : k = j
    · subst e
      simp [go_sem, c1]
    · have c2 := h.c k hk
      simp [go_sem, c2, e]
  · have z2 := h.z k hk
    simp [go_sem, z2]
theorem Pa.congr {W : World} {G : Nat} {f g : Nat → Nat} (h : Pa W G f) (he : ∀ k, k < 17 → f k = g k) : Pa W G g := ⟨fun k hk => by rw [← he k hk]; exact h.c k hk, h.z⟩

abbrev pcs (f : Nat → Nat) : Array Value := #[.int .u8 ((f 0 : Nat) : Int), .int .u8 ((f 1 : Nat) : Int), .int .u8 ((f 2 : Nat) : Int), .int .u8 ((f 3 : Nat) : Int), .int .u8 ((f 4 : Nat) : Int), .int .u8 ((f 5 : Nat) : Int), .int .u8 ((f 6 : Nat) : Int), .int .u8 ((f 7 : Nat) : Int), .int .u8 ((f 8 : Nat) : Int), .int .u8 ((f 9 : Nat) : Int), .int .u8 ((f 10 : Nat) : Int), .int .u8 ((f 11 : Nat) : Int), .int .u8 ((f 12 : Nat) : Int), .int .u8 ((f 13 : Nat) : Int), .int .u8 ((f 14 : Nat) : Int), .int .u8 ((f 15 : Nat) : Int), .int .u8 ((f 16 : Nat) : Int)]
abbrev scs (f : Nat → Nat) : Array Value := #[.int .u8 ((f 0 : Nat) : Int), .int .u8 ((f 1 : Nat) : Int), .int .u8 ((f 2 : Nat) : Int), .int .u8 ((f 3 : Nat) : Int), .int .u8 ((f 4 : Nat) : Int), .int .u8 ((f 5 : Nat) : Int), .int .u8 ((f 6 : Nat) : Int), .int .u8 ((f 7 : Nat) : Int), .int .u8 ((f 8 : Nat) : Int), .int .u8 ((f 9 : Nat) : Int), .int .u8 ((f 10 : Nat) : Int), .int .u8 ((f 11 : Nat) : Int), .int .u8 ((f 12 : Nat) : Int), .int .u8 ((f 13 : Nat) : Int), .int .u8 ((f 14 : Nat) : Int), .int .u8 ((f 15 : Nat) : Int)]
abbrev pgv (f : Nat → Nat) : Value := .agg (pcs f)
abbrev pzs : Array Value := #[.int .u8 0, .int .u8 0, .int .u8 0, .int .u8 0, .int .u8 0, .int .u8 0, .int .u8 0, .int .u8 0, .int .u8 0, .int .u8 0, .int .u8 0, .int .u8 0, .int .u8 0, .int .u8 0, .int .u8 0, .int .u8 0, .int .u8 0]
abbrev pos : Array Value := #[.int .u8 1, .int .u8 0, .int .u8 0, .int .u8 0, .int .u8 0, .int .u8 0, .int .u8 0, .int .u8 0, .int .u8 0, .int .u8 0, .int .u8 0, .int .u8 0, .int .u8 0, .int .u8 0, .int .u8 0, .int .u8 0, .int .u8 0]
abbrev szs : Array Value := #[.int .u8 0, .int .u8 0, .int .u8 0, .int .u8 0, .int .u8 0, .int .u8 0, .int .u8 0, .int .u8 0, .int .u8 0, .int .u8 0, .int .u8 0, .int .u8 0, .int .u8 0, .int .u8 0, .int .u8 0, .int .u8 0]
def pon (k : Nat) : Nat := if k = 0 then 1 else 0

theorem Pa.box (w : World) (f : Nat → Nat) (t : TypeId) : Pa (w.alloc (.cells (pcs f) t)) w.heap.size f := by
  refine ⟨fun k hk => ?_, fun k hk => ?_⟩
  · match k, hk with
    | 0, _ => simp
    | 1, _ => simp
    | 2, _ => simp
    | 3, _ => simp
    | 4, _ => simp
    | 5, _ => simp
    | 6, _ => simp
    | 7, _ => simp
    | 8, _ => simp
    | 9, _ => simp
    | 10, _ => simp
    | 11, _ => simp
    | 12, _ => simp
    | 13, _ => simp
    | 14, _ => simp
    | 15, _ => simp
    | 16, _ => simp
    | k + 17, hk => exact absurd hk (by omega)
  · match k, hk with
    | 0, _ => simp
    | 1, _ => simp
    | 2, _ => simp
    | 3, _ => simp
    | 4, _ => simp
    | 5, _ => simp
    | 6, _ => simp
    | 7, _ => simp
    | 8, _ => simp
    | 9, _ => simp
    | 10, _ => simp
    | 11, _ => simp
    | 12, _ => simp
    | 13, _ => simp
    | 14, _ => simp
    | 15, _ => simp
    | 16, _ => simp
    | k + 17, hk => exact absurd hk (by omega)
theorem Ar.box (w : World) (f : Nat → Nat) (t : TypeId) : Ar (w.alloc (.cells (scs f) t)) w.heap.size f := by
  refine ⟨fun k hk => ?_, fun k hk => ?_⟩
  · match k, hk with
    | 0, _ => simp
    | 1, _ => simp
    | 2, _ => simp
    | 3, _ => simp
    | 4, _ => simp
    | 5, _ => simp
    | 6, _ => simp
    | 7, _ => simp
    | 8, _ => simp
    | 9, _ => simp
    | 10, _ => simp
    | 11, _ => simp
    | 12, _ => simp
    | 13, _ => simp
    | 14, _ => simp
    | 15, _ => simp
    | k + 16, hk => exact absurd hk (by omega)
  · match k, hk with
    | 0, _ => simp
    | 1, _ => simp
    | 2, _ => simp
    | 3, _ => simp
    | 4, _ => simp
    | 5, _ => simp
    | 6, _ => simp
    | 7, _ => simp
    | 8, _ => simp
    | 9, _ => simp
    | 10, _ => simp
    | 11, _ => simp
    | 12, _ => simp
    | 13, _ => simp
    | 14, _ => simp
    | 15, _ => simp
    | k + 16, hk => exact absurd hk (by omega)
theorem Pa.zero (w : World) (t : TypeId) : Pa (w.alloc (.cells pzs t)) w.heap.size (fun _ => 0) := Pa.box w (fun _ => 0) t
theorem Pa.one (w : World) (t : TypeId) : Pa (w.alloc (.cells pos t)) w.heap.size pon := Pa.box w pon t

theorem set_block {W : World} {G j b : Nat} {v : Value} (h : b ≠ G) : (W.setCell ⟨G, j, none⟩ v).heap[b]? = W.heap[b]? := Below.heap_setCell _ _ _ _ h
theorem below_gk {B G k : Nat} {w X : World} {v : Value} (hG : B ≤ G) (h : Below B w X) : Below B w (X.setCell ⟨G, k, none⟩ v) := h.setCell (p := ⟨G, k, none⟩) hG _
theorem cells_block {G b : Nat} (h : b ≠ G) : ∀ (vs : List Value) (o : Nat) (W : World), (W.setCells G o vs).heap[b]? = W.heap[b]?
  | [], _, _ => rfl
  | v :: r, o, W => by rw [World.setCells, cells_block h r (o + 1), set_block h]
theorem cells_below {B G : Nat} (h : B ≤ G) {w : World} : ∀ (vs : List Value) (o : Nat) (W : World), Below B w W → Below B w (W.setCells G o vs)
  | [], _, _, hb => hb
  | v :: r, o, W, hb => by rw [World.setCells]; exact cells_below h r (o + 1) _ (below_gk h hb)

theorem Pa.list (f : Nat → Nat) : (pcs f).toList = (List.range 17).map (fun k => .int .u8 ((f k : Nat) : Int)) := rfl
theorem Pa.info : (Try.prog.info? 81).map (·.size) = some 17 := by kernel_rfl
theorem Pa.under : Try.prog.underlying 81 = some (.array 17 5) := by kernel_rfl
theorem Pa.range {W : World} {G : Nat} {f : Nat → Nat} (h : Pa W G f) : W.rangeAt G 0 (pcs f).toList := fun j v hv => by
  rw [Pa.list, List.getElem?_map] at hv
  by_cases hj : j < 17
  · rw [List.getElem?_range hj] at hv
    cases hv
    rw [Nat.zero_add]
    exact h.c j hj
  · rw [List.getElem?_eq_none (by simp; omega)] at hv
    cases hv
theorem Pa.there {W : World} {G : Nat} {f : Nat → Nat} (h : Pa W G f) : W.there G 0 17 := fun j hj => by
  rw [Nat.zero_add]
  exact ⟨by rw [h.c j hj]; rfl, h.z j hj⟩
theorem Pa.ones (f : Nat → Nat) : (pcs f).all (·.oneCell') = true := all_oneCell_toArray (cs := (pcs f).toList) (fun v hv => by
  rw [Pa.list] at hv
  obtain ⟨k, _, rfl⟩ := List.mem_map.1 hv
  rfl)
/-- A whole array stored over another. -/
def Pa.st (W : World) (G : Nat) (g : Nat → Nat) : World := W.setCells G 0 (pcs g).toList
theorem Pa.stored {W : World} {G : Nat} {f : Nat → Nat} (h : Pa W G f) (g : Nat → Nat) : Pa (Pa.st W G g) G g := by
  refine ⟨fun k hk => ?_, fun k hk => ?_⟩
  · have := World.cell?_setCells_in G (pcs g).toList 0 W (fun j hj => (h.there j hj).1) k hk
    rw [Nat.zero_add] at this
    unfold Pa.st
    rw [this]
    have e : (pcs g).toList[k]? = some (.int .u8 ((g k : Nat) : Int)) := by rw [Pa.list, List.getElem?_map, List.getElem?_range hk]; rfl
    rw [List.getElem?_eq_getElem hk] at e
    exact e
  · unfold Pa.st
    rw [World.frozen?_setCells]
    exact h.z k hk
theorem Pa.st_block {W : World} {G b : Nat} (g : Nat → Nat) (h : b ≠ G) : (Pa.st W G g).heap[b]? = W.heap[b]? := cells_block h _ _ _
theorem Pa.st_below {W w : World} {B G : Nat} (g : Nat → Nat) (hb : Below B w W) (h : B ≤ G) : Below B w (Pa.st W G g) := cells_below h _ _ _ hb
theorem Pa.load {W : World} {G : Nat} {f : Nat → Nat} (h : Pa W G f) : (loadVar 81 ⟨G, 0, none⟩).run Try.prog W = .ok (.agg (pcs f)) W :=
  run_loadVar_mid W G 0 81 (pcs f).toList (.array 17 5) h.range Pa.under rfl Pa.info
theorem Pa.oload {op : Oper} {a : Act} {W : World} {K : Act → World → Prop} {Q : Exit → Act → World → Prop} {G : Nat} {f : Nat → Nat} (h : Pa W G f) (x : Operand) (ho : op.op = .load 81 x) (hx : a.eval x = .pointer (some ⟨G, 0, none⟩))
    (hk : K (a.put op.dst (.agg (pcs f))) W) : op.wp Try.prog a W K Q :=
  wp_load_mid 81 x ho G 0 hx (pcs f).toList (.array 17 5) h.range Pa.under rfl Pa.info hk
theorem Pa.ostore {op : Oper} {a : Act} {W : World} {K : Act → World → Prop} {Q : Exit → Act → World → Prop} {G : Nat} {f : Nat → Nat} (h : Pa W G f) (g : Nat → Nat) (x y : Operand) (ho : op.op = .store 81 x y) (hx : a.eval x = .pointer (some ⟨G, 0, none⟩)) (hy : a.eval y = .agg (pcs g))
    (hk : K (a.put op.dst undef) (Pa.st W G g)) : op.wp Try.prog a W K Q :=
  wp_store_mid 81 x y ho G 0 (pcs g) hx hy h.there Pa.info (Pa.ones g) hk
theorem Pa.wload {ops : Array Oper} {rest : List Oper} {op : Oper} {a : Act} {W : World} {Q : Exit → Act → World → Prop} {G : Nat} {f : Nat → Nat} (h : Pa W G f) (hgd : op.guard = none) (x : Operand) (ho : op.op = .load 81 x) (hx : a.eval x = .pointer (some ⟨G, 0, none⟩))
    (hk : wpList Try.prog ops Q rest (a.put op.dst (.agg (pcs f))) W) : wpList Try.prog ops Q (op :: rest) a W :=
  wpList_load_mid hgd 81 x ho G 0 hx (pcs f).toList (.array 17 5) h.range Pa.under rfl Pa.info hk
theorem Pa.wstore {ops : Array Oper} {rest : List Oper} {op : Oper} {a : Act} {W : World} {Q : Exit → Act → World → Prop} {G : Nat} {f : Nat → Nat} (h : Pa W G f) (g : Nat → Nat) (hgd : op.guard = none) (x y : Operand) (ho : op.op = .store 81 x y) (hx : a.eval x = .pointer (some ⟨G, 0, none⟩)) (hy : a.eval y = .agg (pcs g))
    (hk : wpList Try.prog ops Q rest (a.put op.dst undef) (Pa.st W G g)) : wpList Try.prog ops Q (op :: rest) a W :=
  wpList_store_mid hgd 81 x y ho G 0 (pcs g) hx hy h.there Pa.info (Pa.ones g) hk

theorem Ar.list (f : Nat → Nat) : (scs f).toList = (List.range 16).map (fun k => .int .u8 ((f k : Nat) : Int)) := rfl
theorem Ar.info : (Try.prog.info? 74).map (·.size) = some 16 := by kernel_rfl
theorem Ar.under : Try.prog.underlying 74 = some (.array 16 5) := by kernel_rfl
theorem Ar.range {W : World} {G : Nat} {f : Nat → Nat} (h : Ar W G f) : W.rangeAt G 0 (scs f).toList := fun j v hv => by
  rw [Ar.list, List.getElem?_map] at hv
  by_cases hj : j < 16
  · rw [List.getElem?_range hj] at hv
    cases hv
    rw [Nat.zero_add]
    exact h.c j hj
  · rw [List.getElem?_eq_none (by simp; omega)] at hv
    cases hv
theorem Ar.there {W : World} {G : Nat} {f : Nat → Nat} (h : Ar W G f) : W.there G 0 16 := fun j hj => by
  rw [Nat.zero_add]
  exact ⟨by rw [h.c j hj]; rfl, h.z j hj⟩
theorem Ar.ones (f : Nat → Nat) : (scs f).all (·.oneCell') = true := all_oneCell_toArray (cs := (scs f).toList) (fun v hv => by
  rw [Ar.list] at hv
  obtain ⟨k, _, rfl⟩ := List.mem_map.1 hv
  rfl)
/-- A whole array stored over another. -/
def Ar.st (W : World) (G : Nat) (g : Nat → Nat) : World := W.setCells G 0 (scs g).toList
theorem Ar.stored {W : World} {G : Nat} {f : Nat → Nat} (h : Ar W G f) (g : Nat → Nat) : Ar (Ar.st W G g) G g := by
  refine ⟨fun k hk => ?_, fun k hk => ?_⟩
  · have := World.cell?_setCells_in G (scs g).toList 0 W (fun j hj => (h.there j hj).1) k hk
    rw [Nat.zero_add] at this
    unfold Ar.st
    rw [this]
    have e : (scs g).toList[k]? = some (.int .u8 ((g k : Nat) : Int)) := by rw [Ar.list, List.getElem?_map, List.getElem?_range hk]; rfl
    rw [List.getElem?_eq_getElem hk] at e
    exact e
  · unfold Ar.st
    rw [World.frozen?_setCells]
    exact h.z k hk
theorem Ar.st_block {W : World} {G b : Nat} (g : Nat → Nat) (h : b ≠ G) : (Ar.st W G g).heap[b]? = W.heap[b]? := cells_block h _ _ _
theorem Ar.st_below {W w : World} {B G : Nat} (g : Nat → Nat) (hb : Below B w W) (h : B ≤ G) : Below B w (Ar.st W G g) := cells_below h _ _ _ hb
theorem Ar.load {W : World} {G : Nat} {f : Nat → Nat} (h : Ar W G f) : (loadVar 74 ⟨G, 0, none⟩).run Try.prog W = .ok (.agg (scs f)) W :=
  run_loadVar_mid W G 0 74 (scs f).toList (.array 16 5) h.range Ar.under rfl Ar.info
theorem Ar.oload {op : Oper} {a : Act} {W : World} {K : Act → World → Prop} {Q : Exit → Act → World → Prop} {G : Nat} {f : Nat → Nat} (h : Ar W G f) (x : Operand) (ho : op.op = .load 74 x) (hx : a.eval x = .pointer (some ⟨G, 0, none⟩))
    (hk : K (a.put op.dst (.agg (scs f))) W) : op.wp Try.prog a W K Q :=
  wp_load_mid 74 x ho G 0 hx (scs f).toList (.array 16 5) h.range Ar.under rfl Ar.info hk
theorem Ar.ostore {op : Oper} {a : Act} {W : World} {K : Act → World → Prop} {Q : Exit → Act → World → Prop} {G : Nat} {f : Nat → Nat} (h : Ar W G f) (g : Nat → Nat) (x y : Operand) (ho : op.op = .store 74 x y) (hx : a.eval x = .pointer (some ⟨G, 0, none⟩)) (hy : a.eval y = .agg (scs g))
    (hk : K (a.put op.dst undef) (Ar.st W G g)) : op.wp Try.prog a W K Q :=
  wp_store_mid 74 x y ho G 0 (scs g) hx hy h.there Ar.info (Ar.ones g) hk
theorem Ar.wload {ops : Array Oper} {rest : List Oper} {op : Oper} {a : Act} {W : World} {Q : Exit → Act → World → Prop} {G : Nat} {f : Nat → Nat} (h : Ar W G f) (hgd : op.guard = none) (x : Operand) (ho : op.op = .load 74 x) (hx : a.eval x = .pointer (some ⟨G, 0, none⟩))
    (hk : wpList Try.prog ops Q rest (a.put op.dst (.agg (scs f))) W) : wpList Try.prog ops Q (op :: rest) a W :=
  wpList_load_mid hgd 74 x ho G 0 hx (scs f).toList (.array 16 5) h.range Ar.under rfl Ar.info hk
theorem Ar.wstore {ops : Array Oper} {rest : List Oper} {op : Oper} {a : Act} {W : World} {Q : Exit → Act → World → Prop} {G : Nat} {f : Nat → Nat} (h : Ar W G f) (g : Nat → Nat) (hgd : op.guard = none) (x y : Operand) (ho : op.op = .store 74 x y) (hx : a.eval x = .pointer (some ⟨G, 0, none⟩)) (hy : a.eval y = .agg (scs g))
    (hk : wpList Try.prog ops Q rest (a.put op.dst undef) (Ar.st W G g)) : wpList Try.prog ops Q (op :: rest) a W :=
  wpList_store_mid hgd 74 x y ho G 0 (scs g) hx hy h.there Ar.info (Ar.ones g) hk
end Go.Proofs.Ytpjpkkgcnnmljaa
