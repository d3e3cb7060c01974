/- Lift2: along the columns. -/
import Derived.Test.YtjpkoladmeeidaaRR
namespace Go.Proofs.Ytjpkoladmeeidaa
open Go.RowKit

theorem Below.heap_other (w : World) (g j : Nat) (u : Value) (k : Nat) (h : k ≠ g) : (w.setCell ⟨g, j, none⟩ u).heap[k]? = w.heap[k]? := Below.heap_setCell _ _ _ _ h

/-- A row of rows: one of them, and what a number put into it makes of all. -/
theorem OPI.row {w : World} {B H g cap n : Nat} {ms : Nat → Nat} {X : Nat → Nat → Int} (h : OPI w B H (.slice (some ⟨g, 0, none⟩) n cap) n ms X) {k : Nat} (hk : k < n) (hm : 0 < ms k) :
    ∃ g' c' Bk, w.cell? ⟨g, k, none⟩ = some (.slice (some ⟨g', 0, none⟩) (ms k) c') ∧ ms k ≤ c' ∧ w.ownsRow Bk 3 1 (.slice (some ⟨g', 0, none⟩) (ms k) c') (ms k) (ils (X k) (ms k)) ∧ g < g' ∧ B ≤ g' ∧ g' < H ∧
      ∀ j x, OPI (w.setCell ⟨g', j, none⟩ (.int .i64 x)) B H (.slice (some ⟨g, 0, none⟩) n cap) n ms (fun i l => if i = k ∧ l = j then x else X i l) := by
  obtain ⟨g0, cap0, R, Bs, hv, hcap, h1, h2, h3, h4, hlt, hr⟩ := h
  injection hv with hv1 hv2 hv3
  injection hv1 with hv1
  injection hv1 with hv1
  subst hv1 hv3
  have hBs : ∀ i, i ≤ n → g < Bs i := fun i => by
    induction i with
    | zero => intro _; exact h2
    | succ i ih => intro hi; exact Nat.lt_of_lt_of_le (ih (by omega)) (h3 i (by omega))
  have hBm : ∀ j i, i ≤ j → j ≤ n → Bs i ≤ Bs j := fun j => by
    induction j with
    | zero => intro i hi _; obtain rfl : i = 0 := by omega
              exact Nat.le_refl _
    | succ j ih =>
      intro i hi hj
      by_cases he : i = j + 1
      · subst he; exact Nat.le_refl _
      · exact Nat.le_trans (ih i (by omega) (by omega)) (h3 j (by omega))
  obtain ⟨r1, r2, r3⟩ := hr k hk
  have r2' := r2
  rcases r2.2 with ⟨hv, h0⟩ | ⟨g', c', cur, hv, hb', hg', hnc, hrest⟩
  · omega
  · rw [hv] at r1 r2
    have hb := r3 g' (by rw [hv]; rfl)
    have hgg : g < g' := Nat.lt_of_lt_of_le (hBs k (by omega)) hb'
    have hgH : g' < H := by have := hBm n (k + 1) (by omega) (Nat.le_refl _); omega
    refine ⟨g', c', Bs k, r1, hnc, r2, hgg, by omega, hgH, fun j x => ?_⟩
    have on : Only g' w (w.setCell ⟨g', j, none⟩ (.int .i64 x)) := (Only.refl _ _).put j _
    refine ⟨g, cap, R, Bs, rfl, hcap, h1, h2, h3, h4, Nat.lt_of_lt_of_le hlt on.size, fun i hi => ⟨(on.cell (p := ⟨g, i, none⟩) (by show g ≠ g'; omega)).trans (hr i hi).1, ?_, (hr i hi).2.2⟩⟩
    by_cases hik : i = k
    · subst hik
      have q := (World.ownsRow.stored r2 j (.int .i64 x)).1
      rw [ils_put, ← hv] at q
      have e : (fun l => if i = i ∧ l = j then x else X i l) = (fun l => if l = j then x else X i l) := by
        funext l
        simp
      show World.ownsRow _ _ 3 1 _ _ (ils (fun l => if i = i ∧ l = j then x else X i l) _)
      rw [e]
      exact q
    · have e : (fun l => if i = k ∧ l = j then x else X i l) = X i := by
        funext l
        rw [if_neg (fun h => hik h.1)]
      show World.ownsRow _ _ 3 1 _ _ (ils (fun l => if i = k ∧ l = j then x else X i l) _)
      rw [e]
      refine own_ap (hr i hi).2.1 on (fun b hbk => ?_)
      have hb1 := (hr i hi).2.2 b hbk
      have hb2 := (World.ownsRow.lt (hr i hi).2.1 b hbk).1
      by_cases h5 : i < k
      · have := hBm k (i + 1) (by omega) (by omega)
        omega
      · have := hBm i (k + 1) (by omega) (by omega)
        omega

/-- Columns done: those ahead of p. -/
def colz (ch : Nat → (Nat → Int) → Nat → Int) (n : Nat) (X : Nat → Nat → Int) (p : Nat) (i j : Nat) : Int := if j < p then ch n (fun i => X i j) i else 0

/-- .. and of column p the rows ahead of q. -/
def colq (ch : Nat → (Nat → Int) → Nat → Int) (n : Nat) (X : Nat → Nat → Int) (p q : Nat) (i j : Nat) : Int := if j < p ∨ (j = p ∧ i < q) then ch n (fun i => X i j) i else 0

theorem OPI.congr {w : World} {B H : Nat} {v : Value} {n : Nat} {ms : Nat → Nat} {X Y : Nat → Nat → Int} (h : OPI w B H v n ms X) (he : ∀ i, i < n → ∀ j, j < ms i → X i j = Y i j) : OPI w B H v n ms Y := by
  obtain ⟨g, cap, R, Bs, hv, hcap, h1, h2, h3, h4, hlt, hr⟩ := h
  refine ⟨g, cap, R, Bs, hv, hcap, h1, h2, h3, h4, hlt, fun k hk => ⟨(hr k hk).1, ?_, (hr k hk).2.2⟩⟩
  have := (hr k hk).2.1
  rw [ils_congr (he k hk)] at this
  exact this


theorem OPI.cast {w : World} {B H : Nat} {v : Value} {n : Nat} {ms ms' : Nat → Nat} {X : Nat → Nat → Int} (h : OPI w B H v n ms X) (he : ∀ k, k < n → ms k = ms' k) : OPI w B H v n ms' X := by
  obtain ⟨g, cap, R, Bs, hv, hcap, h1, h2, h3, h4, hlt, hr⟩ := h
  refine ⟨g, cap, R, Bs, hv, hcap, h1, h2, h3, h4, hlt, fun k hk => ⟨(hr k hk).1, ?_, (hr k hk).2.2⟩⟩
  have := (hr k hk).2.1
  rw [he k hk] at this
  exact this

theorem OPI.high {w : World} {B H H' : Nat} {v : Value} {n : Nat} {ms : Nat → Nat} {X : Nat → Nat → Int} (h : OPI w B H v n ms X) (hH : H ≤ H') : OPI w B H' v n ms X := by
  obtain ⟨g, cap, R, Bs, hv, hcap, h1, h2, h3, h4, hlt, hr⟩ := h
  exact ⟨g, cap, R, Bs, hv, hcap, h1, h2, h3, Nat.le_trans h4 hH, hlt, hr⟩

theorem OPI.only {w w' : World} {B H g1 : Nat} {v : Value} {n : Nat} {ms : Nat → Nat} {X : Nat → Nat → Int} (h : OPI w B H v n ms X) (ho : Only g1 w w') (hg : H ≤ g1) : OPI w' B H v n ms X := by
  obtain ⟨g, cap, R, Bs, hv, hcap, h1, h2, h3, h4, hlt, hr⟩ := h
  have hBm : ∀ j i, i ≤ j → j ≤ n → Bs i ≤ Bs j := fun j => by
    induction j with
    | zero => intro i hi _; obtain rfl : i = 0 := by omega
              exact Nat.le_refl _
    | succ j ih =>
      intro i hi hj
      by_cases he : i = j + 1
      · subst he; exact Nat.le_refl _
      · exact Nat.le_trans (ih i (by omega) (by omega)) (h3 j (by omega))
  have hg0 : g ≠ g1 := by have := hBm n 0 (by omega) (Nat.le_refl _); omega
  refine ⟨g, cap, R, Bs, hv, hcap, h1, h2, h3, h4, Nat.lt_of_lt_of_le hlt ho.size, fun k hk => ⟨(ho.cell (p := ⟨g, k, none⟩) hg0).trans (hr k hk).1, own_ap (hr k hk).2.1 ho (fun b hb => ?_), (hr k hk).2.2⟩⟩
  have h5 := (hr k hk).2.2 b hb
  have h6 := hBm n (k + 1) (by omega) (Nat.le_refl _)
  omega

theorem own_some {w : World} {B n : Nat} {u : Value} {xs : List Value} (h : w.ownsRow B 3 1 u n xs) (hn : 0 < n) : ∃ gu cu, u = .slice (some ⟨gu, 0, none⟩) n cu ∧ n ≤ cu := by
  rcases h.2 with ⟨_, h⟩ | ⟨gu, cu, cur, hu, _, _, hcu, _⟩
  · omega
  · exact ⟨gu, cu, hu, hcu⟩

theorem col_first (ch : Nat → (Nat → Int) → Nat → Int) (n : Nat) (X : Nat → Nat → Int) (p i j : Nat) : colz ch n X p i j = colq ch n X p 0 i j := by
  unfold colz colq
  by_cases h : j < p
  · rw [if_pos h, if_pos (.inl h)]
  · rw [if_neg h, if_neg (by omega)]

theorem col_last (ch : Nat → (Nat → Int) → Nat → Int) (n : Nat) (X : Nat → Nat → Int) (p : Nat) {i : Nat} (hi : i < n) (j : Nat) : colq ch n X p n i j = colz ch n X (p + 1) i j := by
  unfold colz colq
  by_cases h : j < p + 1
  · rw [if_pos h, if_pos (by omega)]
  · rw [if_neg h, if_neg (by omega)]

theorem col_step (ch : Nat → (Nat → Int) → Nat → Int) (n : Nat) (X : Nat → Nat → Int) (p q i j : Nat) : (if i = q ∧ j = p then ch n (fun i => X i p) q else colq ch n X p q i j) = colq ch n X p (q + 1) i j := by
  by_cases h : i = q ∧ j = p
  · rw [if_pos h]
    obtain ⟨rfl, rfl⟩ := h
    unfold colq
    rw [if_pos (by omega)]
  · rw [if_neg h]
    unfold colq
    by_cases h2 : j < p ∨ (j = p ∧ i < q)
    · rw [if_pos h2, if_pos (by omega)]
    · rw [if_neg h2, if_neg (by omega)]

end Go.Proofs.Ytjpkoladmeeidaa
