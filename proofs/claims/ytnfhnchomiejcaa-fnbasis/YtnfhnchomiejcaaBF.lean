/- A word as the model makes it. -/
import Derived.Test.YtnfhnchomiejcaaBE
import Derived.Test.YtnfhnchomiejcaaCL
namespace Go.Proofs.Ytnfhnchomiejcaa
open Go.RowKit

theorem Rgr.swapx {X : World} {B g n cap c a p : Nat} {gs cs : Nat → Nat} {M : Nat → Nat → Int} (h : Rgr X B (.slice (some ⟨g, 0, none⟩) n cap) n c gs cs M) (ha : a < n) (hp : p < n) :
    ∃ gs' cs', Rgr ((X.setCell ⟨g, p, none⟩ (rv gs cs c a)).setCell ⟨g, a, none⟩ (rv gs cs c p)) B (.slice (some ⟨g, 0, none⟩) n cap) n c gs' cs' (swp M a p) ∧ gs' a = gs p ∧ cs' a = cs p ∧ ∀ i, i < n → ∃ j, j < n ∧ gs' i = gs j := by
  refine ⟨_, _, h.swap ha hp, if_pos rfl, if_pos rfl, fun i hi => ?_⟩
  show ∃ j, j < n ∧ (if i = a then gs p else if i = p then gs a else gs i) = gs j
  split
  · exact ⟨p, hp, rfl⟩
  · split
    · exact ⟨a, ha, rfl⟩
    · exact ⟨i, hi, rfl⟩

/-- A word behind q leading columns, as the model makes it. -/
structure Wq (S : Gj) (c n q : Nat) (fr : Bool) (f : Nat → Int) : Prop where
  free : fr = yb (∀ j, j < q → lf S.L j ≠ (c : Int))
  bit : ∀ p, p < n → Bit (f p)
  word : (∀ j, j < q → lf S.L j ≠ (c : Int)) → ∀ p, p < n → f p = wdf S.R (lf S.L) c q p

theorem wq_start (S : Gj) (c n : Nat) : Wq S c n 0 true (fun i => if i = c then 1 else 0) :=
  ⟨(yb_yes (fun j hj => absurd hj (Nat.not_lt_zero _))).symm, fun p _ => by
    show Bit (if p = c then 1 else 0)
    split
    · exact .inr rfl
    · exact .inl rfl, fun _ p _ => rfl⟩

theorem wq_step {S : Gj} {M c n q p : Nat} {fr fr' : Bool} {f : Nat → Int} (h : Wq S c n q fr f) (hg : Gi M n n S) (hq : q < S.L.length) (hc : c < n) (hp : lf S.L q = (p : Int)) (hfr : fr' = (fr && !((p : Int) == (c : Int)))) :
    Wq S c n (q + 1) fr' (fun i => if i = p then xb (f p) (S.R q c) else f i) := by
  have hM : q < M := by have := hg.len; omega
  have hl := hg.lead q hq
  refine ⟨?_, fun t ht => ?_, fun hall t ht => ?_⟩
  · rw [hfr, h.free]
    by_cases h1 : ∀ j, j < q → lf S.L j ≠ (c : Int)
    · rw [yb_yes h1]
      by_cases h2 : p = c
      · rw [yb_no (fun q' => q' q (by omega) (by rw [hp, h2]))]
        simp [h2]
      · rw [yb_yes (fun j hj => ?_)]
        · simp; omega
        · by_cases e : j = q
          · subst e; rw [hp]; omega
          · exact h1 j (by omega)
    · rw [yb_no h1, yb_no (fun q' => h1 (fun j hj => q' j (by omega)))]
      rfl
  · show Bit (if t = p then _ else f t)
    split
    · exact xb_bit _ _
    · exact h.bit t ht
  · have hw := h.word (fun j hj => hall j (by omega))
    show (if t = p then xb (f p) (S.R q c) else f t) = (if t = (lf S.L q).toNat then S.R q c else wdf S.R (lf S.L) c q t)
    have hpe : (lf S.L q).toNat = p := by omega
    rw [hpe]
    by_cases e : t = p
    · rw [if_pos e, if_pos e, hw p (by omega), wdf_far q (fun j hj => ?_), if_neg ?_]
      · rw [xb_comm]
        exact xb_zero (hg.bit q c hM hc)
      · have := hall q (by omega)
        rw [hp] at this
        omega
      · have h1 := hg.asc j q hj hq
        have h2 := hg.lead j (by omega)
        omega
    · rw [if_neg e, if_neg e]
      exact hw t ht
end Go.Proofs.Ytnfhnchomiejcaa
