/- T1 T2 T4 T5. -/
import Derived.Test.YtddbekacdfohpaaGreatDoorM01
import Derived.Laws.AppendOwn
namespace Go.Proofs.YtddbekacdfohpaaGreatDoor
open Go.RowKit

/-- The slice holds the n complex numbers (xs, ys). -/
def Fz (w : World) (v : Value) (n : Nat) (xs ys : Nat → Nat) : Prop := ∃ ao cap, v = .slice ao n cap ∧ n ≤ cap ∧ (0 < n → ∃ b off, ao = some ⟨b, off, none⟩ ∧ b < w.heap.size ∧ ∀ k, k < n → w.cell? ⟨b, off + k, none⟩ = some (.complex .f64 (xs k) (ys k)))

theorem Fz.below {w w' : World} {v : Value} {n : Nat} {xs ys : Nat → Nat} (h : Fz w v n xs ys) (hb : Below w.heap.size w w') : Fz w' v n xs ys := by
  obtain ⟨ao, cap, rfl, hcap, hc⟩ := h
  refine ⟨ao, cap, rfl, hcap, fun h0 => ?_⟩
  obtain ⟨b, off, rfl, hlt, hcell⟩ := hc h0
  exact ⟨b, off, rfl, Nat.lt_of_lt_of_le hlt hb.size, fun k hk => (hb.cell (p := ⟨b, off + k, none⟩) hlt).trans (hcell k hk)⟩

theorem own_below {w w' : World} {B s n : Nat} {e : TypeId} {v : Value} {xs : List Value} (h : w.ownsRow B e s v n xs) (hb : Below w.heap.size w w') : w'.ownsRow B e s v n xs := by
  refine ⟨h.1, ?_⟩
  rcases h.2 with h' | ⟨g', cap', cur, h', hb', hg, rest⟩
  · exact .inl h'
  · exact .inr ⟨g', cap', cur, h', hb', (hb.block g' (Array.getElem?_eq_some_iff.1 hg).1).trans hg, rest⟩

/-- The first k complex numbers, as cells. -/
def czs (X Y : Nat → Nat) (k : Nat) : List Value := (List.range k).map fun i => .complex .f64 (X i) (Y i)

theorem czs_snoc (X Y : Nat → Nat) (k x y : Nat) : czs X Y k ++ [.complex .f64 x y] = czs (fun i => if i = k then x else X i) (fun i => if i = k then y else Y i) (k + 1) := by
  unfold czs
  rw [List.range_succ, List.map_append]
  congr 1
  · apply List.map_congr_left
    intro i hi
    have : ¬ i = k := by have := List.mem_range.1 hi; omega
    simp [this]
  · simp

theorem fz_of_own {w : World} {B n : Nat} {v : Value} {X Y : Nat → Nat} (h : w.ownsRow B 87 1 v n (czs X Y n)) : Fz w v n X Y := by
  rcases h.2 with ⟨rfl, rfl⟩ | ⟨g, cap, cur, rfl, hb, hg, hc, _⟩
  · exact ⟨none, 0, rfl, Nat.le_refl _, fun h => absurd h (by omega)⟩
  · refine ⟨_, _, rfl, hc, fun h0 => ⟨g, 0, rfl, (Array.getElem?_eq_some_iff.1 hg).1, fun k hk => ?_⟩⟩
    rw [Nat.zero_add, World.ownsRow.cellAt h k (by omega)]
    simp [czs, hk]

theorem Tryz.info87 : (Tryz.prog.info? 87).map (fun i => (i.zero, i.size, i.bytes)) = some (some (.complex .f64 0 0), 1, 16) := by kernel_rfl

theorem one_new (w : World) (v : Value) (t : TypeId) : ∀ j u, [v][j]? = some u → (w.alloc (.cells #[v] t)).cell? ((⟨w.heap.size, 0, none⟩ : Addr).add j) = some u := by
  intro j u h
  match j, h with
  | 0, h => simp at h; subst h; simp [Addr.add]
  | n + 1, h => simp at h

/-- What a step of RootsTo makes of a list: each number the next lower one less the root times the own. -/
def cnext (w1 w2 : Option Nat) (P : Nat → Option Nat × Option Nat) (k : Nat) : Option Nat × Option Nat :=
  (cop .sub (if k = 0 then some 0 else (P (k - 1)).1) (cre w1 w2 (P k).1 (P k).2), cop .sub (if k = 0 then some 0 else (P (k - 1)).2) (cim w1 w2 (P k).1 (P k).2))

theorem own_empty (w : World) (t : TypeId) (s : Nat) : (w.alloc (.cells #[] t)).ownsRow w.heap.size t s (.slice (some ⟨w.heap.size, 0, none⟩) 0 0) 0 [] :=
  ⟨by simp, .inr ⟨w.heap.size, 0, #[], rfl, Nat.le_refl _, heap_alloc_new w _, Nat.le_refl _, by decide, by simp, by simp⟩⟩

theorem grown_below {w W w3 : World} {B s n : Nat} {e : TypeId} {v : Value} {xs : List Value} (h : Below B w W) (hB : B ≤ w.heap.size) (ho : W.ownsRow B e s v n xs) (hg : W.grownBy w3 v.ownBlock) : Below B w w3 :=
  h.grown hg (Nat.le_trans hB h.size) (fun k hk => (World.ownsRow.lt ho k hk).1)

end Go.Proofs.YtddbekacdfohpaaGreatDoor

namespace Go.Proofs.YtddbekacdfohpaaGreatDoor
open Go.RowKit

/-- The polynomial of the first roots. -/
def croot (xs ys : Nat → Nat) : Nat → Nat → Option Nat × Option Nat
  | 0, _ => (some 4607182418800017408, some 0)
  | i + 1, j => if j = i + 1 then (some 4607182418800017408, some 0) else cnext (cn (xs i)) (cn (ys i)) (croot xs ys i) j

theorem cnext_congr {a b : Option Nat} {P Q : Nat → Option Nat × Option Nat} {n k : Nat} (h : ∀ j, j < n → P j = Q j) (hk : k < n) : cnext a b P k = cnext a b Q k := by
  unfold cnext
  rw [h k hk]
  by_cases h0 : k = 0
  · simp [h0]
  · simp only [if_neg h0]
    rw [h (k - 1) (by omega)]

theorem cn_one : cn 4607182418800017408 = some 4607182418800017408 := by decide +kernel

/-- The first k pairs, as cells. -/
def cl2 (X Y : Nat → Nat) : Nat → List Value
  | 0 => []
  | k + 1 => cl2 X Y k ++ [.float .f64 (X k), .float .f64 (Y k)]

theorem cl2_length (X Y : Nat → Nat) (k : Nat) : (cl2 X Y k).length = k * 2 := by
  induction k with
  | zero => rfl
  | succ k ih => simp [cl2, ih]; omega

theorem cl2_congr {X Y X' Y' : Nat → Nat} : ∀ {k : Nat}, (∀ i, i < k → X i = X' i ∧ Y i = Y' i) → cl2 X Y k = cl2 X' Y' k
  | 0, _ => rfl
  | k + 1, h => by
    unfold cl2
    rw [cl2_congr (k := k) (fun i hi => h i (by omega)), (h k (by omega)).1, (h k (by omega)).2]

theorem cl2_snoc (X Y : Nat → Nat) (k x y : Nat) : cl2 X Y k ++ [.float .f64 x, .float .f64 y] = cl2 (fun i => if i = k then x else X i) (fun i => if i = k then y else Y i) (k + 1) := by
  conv => rhs; unfold cl2
  rw [cl2_congr (X := X) (Y := Y) (X' := fun i => if i = k then x else X i) (Y' := fun i => if i = k then y else Y i) (fun i hi => ?_)]
  · simp
  · have : ¬ i = k := by omega
    simp [this]

theorem cl2_get (X Y : Nat → Nat) : ∀ {n k : Nat}, k < n → (cl2 X Y n)[k * 2]? = some (.float .f64 (X k)) ∧ (cl2 X Y n)[k * 2 + 1]? = some (.float .f64 (Y k))
  | 0, k, h => by omega
  | n + 1, k, h => by
    unfold cl2
    by_cases hk : k < n
    · obtain ⟨h1, h2⟩ := cl2_get X Y (n := n) hk
      rw [List.getElem?_append_left (by rw [cl2_length]; omega), List.getElem?_append_left (by rw [cl2_length]; omega)]
      exact ⟨h1, h2⟩
    · obtain rfl : k = n := by omega
      rw [List.getElem?_append_right (by rw [cl2_length]; omega), List.getElem?_append_right (by rw [cl2_length]; omega), cl2_length]
      simp

theorem fp_of_own {w : World} {B n : Nat} {v : Value} {X Y : Nat → Nat} (h : w.ownsRow B 39 2 v n (cl2 X Y n)) : Fp w v n X Y := by
  rcases h.2 with ⟨rfl, rfl⟩ | ⟨g, cap, cur, rfl, hb, hg, hc, _⟩
  · exact ⟨none, 0, rfl, Nat.le_refl _, fun h => absurd h (by omega)⟩
  · refine ⟨_, _, rfl, hc, fun h0 => ⟨g, 0, rfl, (Array.getElem?_eq_some_iff.1 hg).1, fun k hk => ?_⟩⟩
    rw [Nat.zero_add, World.ownsRow.cellAt h (k * 2) (by omega), World.ownsRow.cellAt h (k * 2 + 1) (by omega)]
    exact cl2_get X Y hk

theorem two_new (w : World) (v u : Value) (t : TypeId) : ∀ j z, [v, u][j]? = some z → (w.alloc (.cells #[v, u] t)).cell? ((⟨w.heap.size, 0, none⟩ : Addr).add j) = some z := by
  intro j z h
  match j, h with
  | 0, h => simp at h; subst h; simp [Addr.add]
  | 1, h => simp at h; subst h; simp [Addr.add]
  | n + 2, h => simp at h

theorem fz_one (w : World) (x y : Nat) : Fz (w.alloc (.cells #[.complex .f64 x y] 87)) (.slice (some ⟨w.heap.size, 0, none⟩) 1 1) 1 (fun _ => x) (fun _ => y) :=
  ⟨_, 1, rfl, Nat.le_refl _, fun _ => ⟨w.heap.size, 0, rfl, by simp, fun k hk => (by
    obtain rfl : k = 0 := by omega
    simp)⟩⟩

theorem own_base {w : World} {B B' s n : Nat} {e : TypeId} {v : Value} {xs : List Value} (h : w.ownsRow B e s v n xs) (hB : B' ≤ B) : w.ownsRow B' e s v n xs := by
  refine ⟨h.1, ?_⟩
  rcases h.2 with h' | ⟨g', cap', cur, h', hb', rest⟩
  · exact .inl h'
  · exact .inr ⟨g', cap', cur, h', Nat.le_trans hB hb', rest⟩

end Go.Proofs.YtddbekacdfohpaaGreatDoor

namespace Go.Proofs.YtddbekacdfohpaaGreatDoor
open Go.RowKit

/-- Nothing but block g has turned. -/
structure Only (g : Nat) (w w' : World) : Prop where
  os : w'.os = w.os
  tape : w'.tape = w.tape
  output : w'.output = w.output
  size : w.heap.size ≤ w'.heap.size
  block : ∀ k, k ≠ g → w'.heap[k]? = w.heap[k]?

theorem Only.refl (g : Nat) (w : World) : Only g w w := ⟨rfl, rfl, rfl, Nat.le_refl _, fun _ _ => rfl⟩

theorem Only.put {g : Nat} {w w' : World} (h : Only g w w') (j : Nat) (u : Value) : Only g w (w'.setCell ⟨g, j, none⟩ u) :=
  ⟨h.os, h.tape, h.output, by simpa [World.setCell] using h.size, fun k hk => (Below.heap_setCell _ _ _ _ hk).trans (h.block k hk)⟩

theorem Below.only {B g : Nat} {w W W' : World} (h : Below B w W) (ho : Only g W W') (hg : B ≤ g) : Below B w W' :=
  h.trans ⟨ho.os, ho.tape, ho.output, ho.size, fun k hk => ho.block k (by omega)⟩

theorem own_only {w w' : World} {B s n g : Nat} {e : TypeId} {v : Value} {xs : List Value} (h : w.ownsRow B e s v n xs) (ho : Only g w w') (hg : g < B) : w'.ownsRow B e s v n xs := by
  refine ⟨h.1, ?_⟩
  rcases h.2 with h' | ⟨g', cap', cur, h', hb', hg', rest⟩
  · exact .inl h'
  · exact .inr ⟨g', cap', cur, h', hb', (ho.block g' (by omega)).trans hg', rest⟩

/-- The float of a whole number. -/
abbrev fk (n : Int) : Nat := floatOfInt .f64 n

theorem fk_ne (n : Int) : (FloatKind.f64.format.order (fk n) (fk n) != some .eq) = false := by
  have h : (Ieee.double.read (fk n)).isNaN = false := write_not_nan (.number (decide (n < 0)) n.natAbs 0) rfl
  have := order_same h
  simp [this]

/-- What marks stand in a row. -/
def Mk (f : Nat → Value) (n : Nat) : Prop := ∀ i, i < n → f (i * 2) = .float .f64 (fk (1 + 2 * (i : Int))) ∧ f (i * 2 + 1) = .float .f64 (fk (1 + 2 * (i : Int) + 1))

end Go.Proofs.YtddbekacdfohpaaGreatDoor

namespace Go.Proofs.YtddbekacdfohpaaGreatDoor
open Go.RowKit

theorem ow_of_own {w : World} {B n : Nat} {v : Value} {L : List Value} (h : w.ownsRow B 39 2 v n L) : (n = 0 ∧ v = .slice none 0 0) ∨ ∃ g cap f, v = .slice (some ⟨g, 0, none⟩) n cap ∧ B ≤ g ∧ g < w.heap.size ∧ Ow w B g n cap f := by
  rcases h.2 with ⟨h1, h2⟩ | ⟨g, cap, cur, rfl, hb, hg, _⟩
  · exact .inl ⟨h2, h1⟩
  · refine .inr ⟨g, cap, fun i => L.getD i (.bool false), rfl, hb, (Array.getElem?_eq_some_iff.1 hg).1, ?_⟩
    have e := list_fun L
    rw [h.1] at e
    unfold Ow
    rw [← e]
    exact h

/-- A row that bears its marks. -/
def Marked (w : World) (B : Nat) (v : Value) (n : Nat) : Prop := (n = 0 ∧ v = .slice none 0 0) ∨ ∃ g cap f, v = .slice (some ⟨g, 0, none⟩) n cap ∧ Ow w B g n cap f ∧ Mk f n

theorem Marked.below {w w' : World} {B n : Nat} {v : Value} (h : Marked w B v n) (hb : Below w.heap.size w w') : Marked w' B v n := by
  rcases h with h | ⟨g, cap, f, rfl, ho, hm⟩
  · exact .inl h
  · exact .inr ⟨g, cap, f, rfl, Ow.below ho hb, hm⟩

end Go.Proofs.YtddbekacdfohpaaGreatDoor
