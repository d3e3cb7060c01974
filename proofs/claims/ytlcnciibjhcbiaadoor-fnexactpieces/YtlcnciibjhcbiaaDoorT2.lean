/- RootsTo: the program's. -/
import Derived.Test.YtlcnciibjhcbiaaDoorT1
namespace Go.Proofs.YtlcnciibjhcbiaaDoor
open Go.RowKit

/-- The polynomial of the first roots. -/
def croot (xs ys : Nat → Nat) : Nat → Nat → Option Nat × Option Nat
  | 0, _ => (some 4607182418800017408, some 0)
  | i + 1, j => if j = i + 1 then (some 4607182418800017408, some 0) else cnext (cn (xs i)) (cn (ys i)) (croot xs ys i) j

theorem cnext_congr {a b : Option Nat} {P Q : Nat → Option Nat × Option Nat} {n k : Nat} (h : ∀ j, j < n → P j = Q j) (hk : k < n) : cnext a b P k = cnext a b Q k := by
  unfold cnext
  rw [h k hk]
  by_cases h0 : k = 0
  · simp [h0]
  · simp only [if_neg h0]
    rw [h (k - 1) (by omega)]

theorem cn_one : cn 4607182418800017408 = some 4607182418800017408 := by decide +kernel

/-- The first k pairs, as cells. -/
def cl2 (X Y : Nat → Nat) : Nat → List Value
  | 0 => []
  | k + 1 => cl2 X Y k ++ [.float .f64 (X k), .float .f64 (Y k)]

theorem cl2_length (X Y : Nat → Nat) (k : Nat) : (cl2 X Y k).length = k * 2 := by
  induction k with
  | zero => rfl
  | succ k ih => simp [cl2, ih]; omega

theorem cl2_congr {X Y X' Y' : Nat → Nat} : ∀ {k : Nat}, (∀ i, i < k → X i = X' i ∧ Y i = Y' i) → cl2 X Y k = cl2 X' Y' k
  | 0, _ => rfl
  | k + 1, h => by
    unfold cl2
    rw [cl2_congr (k := k) (fun i hi => h i (by omega)), (h k (by omega)).1, (h k (by omega)).2]

theorem cl2_snoc (X Y : Nat → Nat) (k x y : Nat) : cl2 X Y k ++ [.float .f64 x, .float .f64 y] = cl2 (fun i => if i = k then x else X i) (fun i => if i = k then y else Y i) (k + 1) := by
  conv => rhs; unfold cl2
  rw [cl2_congr (X := X) (Y := Y) (X' := fun i => if i = k then x else X i) (Y' := fun i => if i = k then y else Y i) (fun i hi => ?_)]
  · simp
  · have : ¬ i = k := by omega
    simp [this]

theorem cl2_get (X Y : Nat → Nat) : ∀ {n k : Nat}, k < n → (cl2 X Y n)[k * 2]? = some (.float .f64 (X k)) ∧ (cl2 X Y n)[k * 2 + 1]? = some (.float .f64 (Y k))
  | 0, k, h => by omega
  | n + 1, k, h => by
    unfold cl2
    by_cases hk : k < n
    · obtain ⟨h1, h2⟩ := cl2_get X Y (n := n) hk
      rw [List.getElem?_append_left (by rw [cl2_length]; omega), List.getElem?_append_left (by rw [cl2_length]; omega)]
      exact ⟨h1, h2⟩
    · obtain rfl : k = n := by omega
      rw [List.getElem?_append_right (by rw [cl2_length]; omega), List.getElem?_append_right (by rw [cl2_length]; omega), cl2_length]
      simp

theorem fp_of_own {w : World} {B n : Nat} {v : Value} {X Y : Nat → Nat} (h : w.ownsRow B 40 2 v n (cl2 X Y n)) : Fp w v n X Y := by
  rcases h.2 with ⟨rfl, rfl⟩ | ⟨g, cap, cur, rfl, hb, hg, hc, _⟩
  · exact ⟨none, 0, rfl, Nat.le_refl _, fun h => absurd h (by omega)⟩
  · refine ⟨_, _, rfl, hc, fun h0 => ⟨g, 0, rfl, (Array.getElem?_eq_some_iff.1 hg).1, fun k hk => ?_⟩⟩
    rw [Nat.zero_add, World.ownsRow.cellAt h (k * 2) (by omega), World.ownsRow.cellAt h (k * 2 + 1) (by omega)]
    exact cl2_get X Y hk

theorem two_new (w : World) (v u : Value) (t : TypeId) : ∀ j z, [v, u][j]? = some z → (w.alloc (.cells #[v, u] t)).cell? ((⟨w.heap.size, 0, none⟩ : Addr).add j) = some z := by
  intro j z h
  match j, h with
  | 0, h => simp at h; subst h; simp [Addr.add]
  | 1, h => simp at h; subst h; simp [Addr.add]
  | n + 2, h => simp at h

theorem fz_one (w : World) (x y : Nat) : Fz (w.alloc (.cells #[.complex .f64 x y] 51)) (.slice (some ⟨w.heap.size, 0, none⟩) 1 1) 1 (fun _ => x) (fun _ => y) :=
  ⟨_, 1, rfl, Nat.le_refl _, fun _ => ⟨w.heap.size, 0, rfl, by simp, fun k hk => (by
    obtain rfl : k = 0 := by omega
    simp)⟩⟩

theorem own_base {w : World} {B B' s n : Nat} {e : TypeId} {v : Value} {xs : List Value} (h : w.ownsRow B e s v n xs) (hB : B' ≤ B) : w.ownsRow B' e s v n xs := by
  refine ⟨h.1, ?_⟩
  rcases h.2 with h' | ⟨g', cap', cur, h', hb', rest⟩
  · exact .inl h'
  · exact .inr ⟨g', cap', cur, h', Nat.le_trans hB hb', rest⟩

end Go.Proofs.YtlcnciibjhcbiaaDoor
