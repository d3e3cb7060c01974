/- Trellises in plain numbers: the best way into each state, step by step (the greatest score; among equals the one that comes first). -/
import Derived.Test.YtgkcofjhajjjgaaTR
namespace Go.Proofs.Ytgkcofjhajjjgaa.Tr

section
variable (nx : Nat → Nat → Nat) (g : Nat → Nat → Nat → Int) (al : Nat → Nat → Prop)

/-- The state behind i bits. -/
def ru (u : Nat → Nat) : Nat → Nat
  | 0 => 0
  | i + 1 => nx (ru u i) (u i)

/-- The score of i bits. -/
def vl (u : Nat → Nat) : Nat → Int
  | 0 => 0
  | i + 1 => vl u i + g i (ru nx u i) (u i)

/-- The first i bits are the same. -/
def Sm (u v : Nat → Nat) (i : Nat) : Prop := ∀ k, k < i → u k = v k

/-- It comes first. -/
def Fs (u v : Nat → Nat) (i : Nat) : Prop := ∃ k, k < i ∧ u k < v k ∧ ∀ j, j < k → u j = v j

/-- It is better. -/
def Bt (u v : Nat → Nat) (i : Nat) : Prop := vl nx g v i < vl nx g u i ∨ (vl nx g u i = vl nx g v i ∧ Fs u v i)

/-- Allowed bits. -/
def Al (u : Nat → Nat) (i : Nat) : Prop := ∀ k, k < i → al k (u k)

/-- The best way into a state. -/
def Op (u : Nat → Nat) (i s : Nat) : Prop := ru nx u i = s ∧ Al al u i ∧ ∀ v, ru nx v i = s → Al al v i → Bt nx g u v i ∨ Sm u v i

variable {nx g al}

theorem Sm.refl (u : Nat → Nat) (i : Nat) : Sm u u i := fun _ _ => rfl

theorem ru_sm {u v : Nat → Nat} : ∀ {i : Nat}, Sm u v i → ru nx u i = ru nx v i
  | 0, _ => rfl
  | i + 1, h => by
    simp only [ru]
    rw [ru_sm (fun k hk => h k (by omega)), h i (by omega)]

theorem vl_sm {u v : Nat → Nat} : ∀ {i : Nat}, Sm u v i → vl nx g u i = vl nx g v i
  | 0, _ => rfl
  | i + 1, h => by
    have h' : Sm u v i := fun k hk => h k (by omega)
    simp only [vl]
    rw [vl_sm h', ru_sm h', h i (by omega)]

theorem Fs.trans {u v w : Nat → Nat} {i : Nat} (h1 : Fs u v i) (h2 : Fs v w i) : Fs u w i := by
  obtain ⟨k, hk, hlt, he⟩ := h1
  obtain ⟨l, hl, hlt2, he2⟩ := h2
  rcases Nat.lt_trichotomy k l with h | h | h
  · exact ⟨k, hk, by rw [← he2 k h]; exact hlt, fun j hj => (he j hj).trans (he2 j (by omega))⟩
  · subst h
    exact ⟨k, hk, by omega, fun j hj => (he j hj).trans (he2 j hj)⟩
  · exact ⟨l, hl, by rw [he l h]; exact hlt2, fun j hj => (he j (by omega)).trans (he2 j hj)⟩

theorem Fs.sm {u v w : Nat → Nat} {i : Nat} (h1 : Fs u v i) (h2 : Sm v w i) : Fs u w i := by
  obtain ⟨k, hk, hlt, he⟩ := h1
  exact ⟨k, hk, by rw [← h2 k hk]; exact hlt, fun j hj => (he j hj).trans (h2 j (by omega))⟩

theorem Fs.sm_left {u v w : Nat → Nat} {i : Nat} (h1 : Sm u v i) (h2 : Fs v w i) : Fs u w i := by
  obtain ⟨k, hk, hlt, he⟩ := h2
  exact ⟨k, hk, by rw [h1 k hk]; exact hlt, fun j hj => (h1 j (by omega)).trans (he j hj)⟩

/-- Better or the same: one behind the other. -/
theorem bs_trans {u v w : Nat → Nat} {i : Nat} (h1 : Bt nx g u v i ∨ Sm u v i) (h2 : Bt nx g v w i ∨ Sm v w i) : Bt nx g u w i ∨ Sm u w i := by
  rcases h1 with h1 | h1 <;> rcases h2 with h2 | h2
  · refine .inl ?_
    unfold Bt at *
    rcases h1 with h1 | ⟨h1, f1⟩ <;> rcases h2 with h2 | ⟨h2, f2⟩
    · exact .inl (by omega)
    · exact .inl (by omega)
    · exact .inl (by omega)
    · exact .inr ⟨by omega, f1.trans f2⟩
  · refine .inl ?_
    have e := vl_sm (nx := nx) (g := g) h2
    unfold Bt at *
    rcases h1 with h1 | ⟨h1, f1⟩
    · exact .inl (by omega)
    · exact .inr ⟨by omega, f1.sm h2⟩
  · refine .inl ?_
    have e := vl_sm (nx := nx) (g := g) h1
    unfold Bt at *
    rcases h2 with h2 | ⟨h2, f2⟩
    · exact .inl (by omega)
    · exact .inr ⟨by omega, f2.sm_left h1⟩
  · exact .inr (fun k hk => (h1 k hk).trans (h2 k hk))

/-- One bit more. -/
def ex (u : Nat → Nat) (i b : Nat) : Nat → Nat := fun k => if k = i then b else u k

theorem ex_sm (u : Nat → Nat) (i b : Nat) : Sm (ex u i b) u i := fun k hk => by unfold ex; rw [if_neg (by omega)]

theorem ex_at (u : Nat → Nat) (i b : Nat) : ex u i b i = b := by unfold ex; rw [if_pos rfl]

theorem ru_ex (u : Nat → Nat) (i b : Nat) : ru nx (ex u i b) (i + 1) = nx (ru nx u i) b := by
  simp only [ru]
  rw [ru_sm (ex_sm u i b), ex_at]

theorem vl_ex (u : Nat → Nat) (i b : Nat) : vl nx g (ex u i b) (i + 1) = vl nx g u i + g i (ru nx u i) b := by
  simp only [vl]
  rw [vl_sm (ex_sm u i b), ru_sm (ex_sm u i b), ex_at]

/-- What is better stays better with the same bit behind it. -/
theorem ex_bs {u v : Nat → Nat} {i : Nat} (hs : ru nx u i = ru nx v i) (h : Bt nx g u v i ∨ Sm u v i) : Bt nx g (ex u i (v i)) v (i + 1) ∨ Sm (ex u i (v i)) v (i + 1) := by
  have e1 := vl_ex (nx := nx) (g := g) u i (v i)
  have e2 : vl nx g v (i + 1) = vl nx g v i + g i (ru nx v i) (v i) := rfl
  rw [hs] at e1
  rcases h with h | h
  · refine .inl ?_
    unfold Bt at *
    rcases h with h | ⟨h, k, hk, hlt, he⟩
    · exact .inl (by omega)
    · refine .inr ⟨by omega, k, by omega, ?_, fun j hj => ?_⟩
      · rw [ex_sm u i (v i) k hk]; exact hlt
      · rw [ex_sm u i (v i) j (by omega)]; exact he j hj
  · refine .inr (fun k hk => ?_)
    by_cases e : k = i
    · subst e; exact ex_at u k (v k)
    · rw [ex_sm u i (v i) k (by omega)]; exact h k (by omega)

/-- The best ways into the states behind one bit more: P s is the best way into s where there is one (D s); c is a way that no way over a state and a bit is better than. -/
theorem op_step {P : Nat → Nat → Nat} {D : Nat → Prop} {i t s b : Nat} (hP : ∀ s, D s → Op nx g al (P s) i s) (hD : ∀ v, Al al v i → D (ru nx v i))
    (hs : D s) (hb : al i b) (ht : nx s b = t) (hbest : ∀ s' b', D s' → al i b' → nx s' b' = t → Bt nx g (ex (P s) i b) (ex (P s') i b') (i + 1) ∨ Sm (ex (P s) i b) (ex (P s') i b') (i + 1)) : Op nx g al (ex (P s) i b) (i + 1) t := by
  refine ⟨?_, fun k hk => ?_, fun v hv ha => ?_⟩
  · rw [ru_ex, (hP s hs).1]; exact ht
  · by_cases e : k = i
    · subst e; rw [ex_at]; exact hb
    · rw [ex_sm _ _ _ k (by omega)]; exact (hP s hs).2.1 k (by omega)
  · have ha' : Al al v i := fun k hk => ha k (by omega)
    have hd := hD v ha'
    obtain ⟨o1, _, o3⟩ := hP _ hd
    exact bs_trans (hbest (ru nx v i) (v i) hd (ha i (by omega)) hv) (ex_bs o1 (o3 v rfl ha'))

/-- Two best ways into a state are the same. -/
theorem op_one {u v : Nat → Nat} {i s : Nat} (hu : Op nx g al u i s) (hv : Op nx g al v i s) : Sm u v i := by
  rcases hu.2.2 v hv.1 hv.2.1 with h1 | h1
  · rcases hv.2.2 u hu.1 hu.2.1 with h2 | h2
    · exfalso
      unfold Bt at *
      rcases h1 with h1 | ⟨h1, k, hk, hlt, he⟩ <;> rcases h2 with h2 | ⟨h2, l, hl, hlt2, he2⟩
      · omega
      · omega
      · omega
      · rcases Nat.lt_trichotomy k l with h | h | h
        · have := he2 k h; omega
        · subst h; omega
        · have := he l h; omega
    · exact fun k hk => (h2 k hk).symm
  · exact h1
end

end Go.Proofs.Ytgkcofjhajjjgaa.Tr
