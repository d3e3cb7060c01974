/- Likeliest in plain numbers: lists of best ways. -/
import Derived.Test.YtgkcofjhajjjgaaSA
namespace Go.Proofs.Ytgkcofjhajjjgaa
open Go.RowKit

open Tr

/-- Which bits are allowed: bits, and noughts in the tail. -/
def alw (n i b : Nat) : Prop := b ≤ 1 ∧ (n ≤ i → b = 0)
/-- What a bit adds to the score. -/
def gg (a b : Nat) (xs : Nat → Int) (i s x : Nat) : Int := xs (2 * i) * (2 * ((par ((2 * s + x) &&& a) : Nat) : Int) - 1) + xs (2 * i + 1) * (2 * ((par ((2 * s + x) &&& b) : Nat) : Int) - 1)

section
variable {nx : Nat → Nat → Nat} {g : Nat → Nat → Nat → Int} {al : Nat → Nat → Prop}

/-- Of two ways one is better, or they are the same. -/
theorem bt_total (u v : Nat → Nat) (i : Nat) : Bt nx g u v i ∨ Bt nx g v u i ∨ Sm u v i := by
  have lex : ∀ i, Fs u v i ∨ Fs v u i ∨ Sm u v i := by
    intro i
    induction i with
    | zero => exact .inr (.inr (fun k hk => by omega))
    | succ i ih =>
      rcases ih with ⟨k, hk, h1, h2⟩ | ⟨k, hk, h1, h2⟩ | h
      · exact .inl ⟨k, by omega, h1, h2⟩
      · exact .inr (.inl ⟨k, by omega, h1, h2⟩)
      · rcases Nat.lt_trichotomy (u i) (v i) with h3 | h3 | h3
        · exact .inl ⟨i, by omega, h3, h⟩
        · refine .inr (.inr (fun k hk => ?_))
          by_cases e : k = i
          · subst e; exact h3
          · exact h k (by omega)
        · exact .inr (.inl ⟨i, by omega, h3, fun j hj => (h j hj).symm⟩)
  unfold Bt
  rcases Int.lt_trichotomy (vl nx g u i) (vl nx g v i) with h | h | h
  · exact .inr (.inl (.inl h))
  · rcases lex i with h1 | h1 | h1
    · exact .inl (.inr ⟨h, h1⟩)
    · exact .inr (.inl (.inr ⟨h.symm, h1⟩))
    · exact .inr (.inr h1)
  · exact .inl (.inl h)

/-- Best ways into states, by a list of them: which numbers are in it (D), their states (T), ways (U), scores (S). -/
structure Li (nx : Nat → Nat → Nat) (g : Nat → Nat → Nat → Int) (al : Nat → Nat → Prop) (i : Nat) (D : Nat → Prop) (T : Nat → Nat) (U : Nat → Nat → Nat) (S : Nat → Int) : Prop where
  op : ∀ k, D k → Tr.Op nx g al (U k) i (T k)
  sc : ∀ k, D k → S k = vl nx g (U k) i
  inj : ∀ k l, D k → D l → T k = T l → k = l
  cov : ∀ v, Al al v i → ∃ k, D k ∧ T k = ru nx v i

/-- The same list one bit on, while candidates (q, b) with Pr come in. -/
structure Pi (nx : Nat → Nat → Nat) (g : Nat → Nat → Nat → Int) (i : Nat) (T : Nat → Nat) (U : Nat → Nat → Nat) (Pr : Nat → Nat → Prop) (D' : Nat → Prop) (T' : Nat → Nat) (U' : Nat → Nat → Nat) (S' : Nat → Int) : Prop where
  fr : ∀ k, D' k → ∃ q b, Pr q b ∧ U' k = ex (U q) i b ∧ T' k = nx (T q) b
  sc : ∀ k, D' k → S' k = vl nx g (U' k) (i + 1)
  cv : ∀ q b, Pr q b → ∃ k, D' k ∧ T' k = nx (T q) b ∧ (Bt nx g (U' k) (ex (U q) i b) (i + 1) ∨ Sm (U' k) (ex (U q) i b) (i + 1))
  inj : ∀ k l, D' k → D' l → T' k = T' l → k = l

theorem Pi.start {i : Nat} {T : Nat → Nat} {U : Nat → Nat → Nat} {Pr : Nat → Nat → Prop} {D' : Nat → Prop} {T' : Nat → Nat} {U' : Nat → Nat → Nat} {S' : Nat → Int} (h1 : ∀ q b, ¬ Pr q b) (h2 : ∀ k, ¬ D' k) : Pi nx g i T U Pr D' T' U' S' :=
  ⟨fun k hk => absurd hk (h2 k), fun k hk => absurd hk (h2 k), fun q b h => absurd h (h1 q b), fun k _ hk _ _ => absurd hk (h2 k)⟩

/-- The same candidates and entries, told otherwise. -/
theorem Pi.congr {i : Nat} {T : Nat → Nat} {U : Nat → Nat → Nat} {Pr Pr2 : Nat → Nat → Prop} {D' D2 : Nat → Prop} {T' : Nat → Nat} {U' : Nat → Nat → Nat} {S' : Nat → Int} (h : Pi nx g i T U Pr D' T' U' S') (h1 : ∀ q b, Pr q b ↔ Pr2 q b) (h2 : ∀ k, D' k ↔ D2 k) : Pi nx g i T U Pr2 D2 T' U' S' :=
  ⟨fun k hk => by obtain ⟨q, b, h3, h4⟩ := h.fr k ((h2 k).2 hk); exact ⟨q, b, (h1 q b).1 h3, h4⟩, fun k hk => h.sc k ((h2 k).2 hk),
   fun q b hp => by obtain ⟨k, h3, h4⟩ := h.cv q b ((h1 q b).2 hp); exact ⟨k, (h2 k).1 h3, h4⟩, fun k l hk hl => h.inj k l ((h2 k).2 hk) ((h2 l).2 hl)⟩

/-- A candidate whose state is in the list, and that is not better. -/
theorem Pi.worse {i q b k : Nat} {T : Nat → Nat} {U : Nat → Nat → Nat} {Pr : Nat → Nat → Prop} {D' : Nat → Prop} {T' : Nat → Nat} {U' : Nat → Nat → Nat} {S' : Nat → Int} (h : Pi nx g i T U Pr D' T' U' S') (hk : D' k) (ht : T' k = nx (T q) b)
    (hw : ¬ Bt nx g (ex (U q) i b) (U' k) (i + 1)) : Pi nx g i T U (fun q' b' => Pr q' b' ∨ (q' = q ∧ b' = b)) D' T' U' S' := by
  refine ⟨fun l hl => ?_, h.sc, fun q' b' hp => ?_, h.inj⟩
  · obtain ⟨q', b', h1, h2⟩ := h.fr l hl
    exact ⟨q', b', .inl h1, h2⟩
  · rcases hp with hp | ⟨rfl, rfl⟩
    · exact h.cv q' b' hp
    · refine ⟨k, hk, ht, ?_⟩
      rcases bt_total (nx := nx) (g := g) (U' k) (ex (U q') i b') (i + 1) with h1 | h1 | h1
      · exact .inl h1
      · exact absurd h1 hw
      · exact .inr h1

/-- A candidate that is better than the one that is in the list. -/
theorem Pi.better {i q b k : Nat} {T : Nat → Nat} {U : Nat → Nat → Nat} {Pr : Nat → Nat → Prop} {D' : Nat → Prop} {T' : Nat → Nat} {U' : Nat → Nat → Nat} {S' : Nat → Int} {s : Int} (h : Pi nx g i T U Pr D' T' U' S') (hk : D' k) (ht : T' k = nx (T q) b)
    (hw : Bt nx g (ex (U q) i b) (U' k) (i + 1)) (hs : s = vl nx g (ex (U q) i b) (i + 1)) : Pi nx g i T U (fun q' b' => Pr q' b' ∨ (q' = q ∧ b' = b)) D' T' (fun l => if l = k then ex (U q) i b else U' l) (fun l => if l = k then s else S' l) := by
  refine ⟨fun l hl => ?_, fun l hl => ?_, fun q' b' hp => ?_, h.inj⟩
  · by_cases e : l = k
    · subst e
      exact ⟨q, b, .inr ⟨rfl, rfl⟩, if_pos rfl, ht⟩
    · obtain ⟨q', b', h1, h2, h3⟩ := h.fr l hl
      exact ⟨q', b', .inl h1, by rw [if_neg e]; exact h2, h3⟩
  · by_cases e : l = k
    · subst e
      rw [if_pos rfl, if_pos rfl]; exact hs
    · rw [if_neg e, if_neg e]; exact h.sc l hl
  · rcases hp with hp | ⟨rfl, rfl⟩
    · obtain ⟨l, h1, h2, h3⟩ := h.cv q' b' hp
      refine ⟨l, h1, h2, ?_⟩
      by_cases e : l = k
      · subst e
        rw [if_pos rfl]
        exact bs_trans (.inl hw) h3
      · rw [if_neg e]; exact h3
    · exact ⟨k, hk, ht, by rw [if_pos rfl]; exact .inr (Sm.refl _ _)⟩

/-- A candidate whose state is not in the list yet. -/
theorem Pi.new {i q b k : Nat} {T : Nat → Nat} {U : Nat → Nat → Nat} {Pr : Nat → Nat → Prop} {D' : Nat → Prop} {T' : Nat → Nat} {U' : Nat → Nat → Nat} {S' : Nat → Int} {s : Int} {t : Nat} (h : Pi nx g i T U Pr D' T' U' S') (hk : ¬ D' k) (ht : t = nx (T q) b)
    (hno : ∀ l, D' l → T' l ≠ t) (hs : s = vl nx g (ex (U q) i b) (i + 1)) : Pi nx g i T U (fun q' b' => Pr q' b' ∨ (q' = q ∧ b' = b)) (fun l => D' l ∨ l = k) (fun l => if l = k then t else T' l) (fun l => if l = k then ex (U q) i b else U' l) (fun l => if l = k then s else S' l) := by
  have hne : ∀ l, D' l → l ≠ k := fun l hl e => hk (e ▸ hl)
  refine ⟨fun l hl => ?_, fun l hl => ?_, fun q' b' hp => ?_, fun l m hl hm he => ?_⟩
  · by_cases e : l = k
    · rw [if_pos e, if_pos e]
      exact ⟨q, b, .inr ⟨rfl, rfl⟩, rfl, ht⟩
    · rw [if_neg e, if_neg e]
      obtain ⟨q', b', h1, h2, h3⟩ := h.fr l (hl.resolve_right e)
      exact ⟨q', b', .inl h1, h2, h3⟩
  · by_cases e : l = k
    · rw [if_pos e, if_pos e]; exact hs
    · rw [if_neg e, if_neg e]; exact h.sc l (hl.resolve_right e)
  · rcases hp with hp | ⟨rfl, rfl⟩
    · obtain ⟨l, h1, h2, h3⟩ := h.cv q' b' hp
      exact ⟨l, .inl h1, by rw [if_neg (hne l h1)]; exact h2, by rw [if_neg (hne l h1)]; exact h3⟩
    · exact ⟨k, .inr rfl, by rw [if_pos rfl]; exact ht, by rw [if_pos rfl]; exact .inr (Sm.refl _ _)⟩
  · by_cases e1 : l = k
    · by_cases e2 : m = k
      · rw [e1, e2]
      · rw [if_pos e1, if_neg e2] at he
        exact absurd he.symm (hno m (hm.resolve_right e2))
    · by_cases e2 : m = k
      · rw [if_neg e1, if_pos e2] at he
        exact absurd he (hno l (hl.resolve_right e1))
      · rw [if_neg e1, if_neg e2] at he
        exact h.inj l m (hl.resolve_right e1) (hm.resolve_right e2) he

/-- All candidates came. -/
theorem Pi.done {i : Nat} {D : Nat → Prop} {T : Nat → Nat} {U : Nat → Nat → Nat} {S : Nat → Int} {Pr : Nat → Nat → Prop} {D' : Nat → Prop} {T' : Nat → Nat} {U' : Nat → Nat → Nat} {S' : Nat → Int} (h : Pi nx g i T U Pr D' T' U' S') (hL : Li nx g al i D T U S)
    (hp : ∀ q b, Pr q b ↔ D q ∧ al i b) : Li nx g al (i + 1) D' T' U' S' := by
  refine ⟨fun k hk => ?_, h.sc, h.inj, fun v hv => ?_⟩
  · obtain ⟨q, b, h1, h2, h3⟩ := h.fr k hk
    obtain ⟨hq, hb⟩ := (hp q b).1 h1
    have hbest : ∀ q' b', D q' → al i b' → nx (T q') b' = T' k → Bt nx g (U' k) (ex (U q') i b') (i + 1) ∨ Sm (U' k) (ex (U q') i b') (i + 1) := by
      intro q' b' h4 h5 h6
      obtain ⟨l, h7, h8, h9⟩ := h.cv q' b' ((hp q' b').2 ⟨h4, h5⟩)
      have : l = k := h.inj l k h7 hk (h8.trans h6)
      rw [this] at h9
      exact h9
    refine ⟨?_, fun j hj => ?_, fun v hv ha => ?_⟩
    · rw [h2, ru_ex, (hL.op q hq).1]; exact h3.symm
    · rw [h2]
      by_cases e : j = i
      · subst e; rw [ex_at]; exact hb
      · rw [ex_sm _ _ _ j (by omega)]; exact (hL.op q hq).2.1 j (by omega)
    · have ha' : Al al v i := fun j hj => ha j (by omega)
      obtain ⟨q', hq', hT⟩ := hL.cov v ha'
      have o := hL.op q' hq'
      have hb2 := hbest q' (v i) hq' (ha i (by omega)) (by rw [hT]; exact hv)
      exact bs_trans hb2 (ex_bs (o.1.trans hT) (o.2.2 v hT.symm ha'))
  · obtain ⟨q, hq, hT⟩ := hL.cov v (fun j hj => hv j (by omega))
    obtain ⟨k, hk, hk2, _⟩ := h.cv q (v i) ((hp q (v i)).2 ⟨hq, hv i (by omega)⟩)
    exact ⟨k, hk, by rw [hk2, hT]; rfl⟩
end

/-- No more different numbers below K than K. -/
theorem pigeon : ∀ (K N : Nat) (f : Nat → Nat), (∀ i, i < N → f i < K) → (∀ i j, i < N → j < N → f i = f j → i = j) → N ≤ K := by
  intro K
  induction K with
  | zero =>
    intro N f h _
    rcases Nat.eq_zero_or_pos N with h0 | h0
    · omega
    · exact absurd (h 0 h0) (by omega)
  | succ K ih =>
    intro N f h hi
    by_cases hx : ∃ i0, i0 < N ∧ f i0 = K
    · obtain ⟨i0, h0, h1⟩ := hx
      have h2 := ih (N - 1) (fun i => if i < i0 then f i else f (i + 1)) (fun i hi9 => by
        show (if i < i0 then f i else f (i + 1)) < K
        by_cases e : i < i0
        · rw [if_pos e]
          have h3 := h i (by omega)
          have h4 : f i ≠ K := fun e2 => by have := hi i i0 (by omega) h0 (e2.trans h1.symm); omega
          omega
        · rw [if_neg e]
          have h3 := h (i + 1) (by omega)
          have h4 : f (i + 1) ≠ K := fun e2 => by have := hi (i + 1) i0 (by omega) h0 (e2.trans h1.symm); omega
          omega) (fun i j hi9 hj9 he => by
        by_cases e1 : i < i0
        · rw [if_pos e1] at he
          by_cases e2 : j < i0
          · rw [if_pos e2] at he
            exact hi i j (by omega) (by omega) he
          · rw [if_neg e2] at he
            have := hi i (j + 1) (by omega) (by omega) he
            omega
        · rw [if_neg e1] at he
          by_cases e2 : j < i0
          · rw [if_pos e2] at he
            have := hi (i + 1) j (by omega) (by omega) he
            omega
          · rw [if_neg e2] at he
            have := hi (i + 1) (j + 1) (by omega) (by omega) he
            omega)
      omega
    · have h2 := ih N f (fun i hi9 => by
        have h3 := h i hi9
        have h4 : f i ≠ K := fun e => hx ⟨i, hi9, e⟩
        omega) hi
      omega

/-- Behind the tail there is one state. -/
theorem tail_state {M n : Nat} {u : Nat → Nat} (hu : ∀ k, n ≤ k → u k = 0) : ∀ j, Tr.ru (nx M) u (n + j) = (2 ^ j * Tr.ru (nx M) u n) % 2 ^ M ∨ j = 0
  | 0 => .inr rfl
  | j + 1 => by
    refine .inl ?_
    show nx M (Tr.ru (nx M) u (n + j)) (u (n + j)) = _
    rw [hu (n + j) (by omega)]
    unfold nx
    rw [Nat.add_zero]
    rcases tail_state hu j with h | h
    · unfold nx at h
      rw [h, Nat.mul_mod, Nat.mod_mod, ← Nat.mul_mod, ← Nat.mul_assoc, Nat.pow_succ, Nat.mul_comm 2 (2 ^ j)]
    · subst h
      rfl

theorem tail_zero {M n : Nat} (hM : 0 < M) {u : Nat → Nat} (hu : ∀ k, n ≤ k → k < n + M → u k = 0) : Tr.ru (nx M) u (n + M) = 0 := by
  have h := tail_state (M := M) (n := n) (u := fun k => if k < n + M then u k else 0) (fun k hk => by
    show (if k < n + M then u k else 0) = 0
    split
    · rename_i h; exact hu k hk h
    · rfl) M
  have e := Tr.ru_sm (nx := nx M) (u := fun k => if k < n + M then u k else 0) (v := u) (i := n + M) (fun k hk => if_pos hk)
  rw [e] at h
  rcases h with h | h
  · rw [h, Nat.mul_mod_right]
  · omega

theorem gg_bound {a b : Nat} {xs : Nat → Int} {i s x : Nat} (h1 : -100 ≤ xs (2 * i) ∧ xs (2 * i) ≤ 100) (h2 : -100 ≤ xs (2 * i + 1) ∧ xs (2 * i + 1) ≤ 100) : -200 ≤ gg a b xs i s x ∧ gg a b xs i s x ≤ 200 := by
  have e : ∀ (y : Int) (p : Nat), -100 ≤ y ∧ y ≤ 100 → p ≤ 1 → -100 ≤ y * (2 * (p : Int) - 1) ∧ y * (2 * (p : Int) - 1) ≤ 100 := by
    intro y p hy hp
    obtain rfl | rfl : p = 0 ∨ p = 1 := by omega
    · constructor <;> simp <;> omega
    · constructor <;> simp <;> omega
  unfold gg
  have e1 := e _ _ h1 (par_le ((2 * s + x) &&& a))
  have e2 := e _ _ h2 (par_le ((2 * s + x) &&& b))
  omega

theorem vl_bound {nx : Nat → Nat → Nat} {a b : Nat} {xs : Nat → Int} {u : Nat → Nat} : ∀ {i : Nat}, (∀ k, k < 2 * i → -100 ≤ xs k ∧ xs k ≤ 100) → -200 * (i : Int) ≤ Tr.vl nx (gg a b xs) u i ∧ Tr.vl nx (gg a b xs) u i ≤ 200 * (i : Int)
  | 0, _ => by simp [Tr.vl]
  | i + 1, h => by
    have h1 := vl_bound (nx := nx) (a := a) (b := b) (u := u) (i := i) (fun k hk => h k (by omega))
    have h2 := gg_bound (a := a) (b := b) (s := Tr.ru nx u i) (x := u i) (h (2 * i) (by omega)) (h (2 * i + 1) (by omega))
    simp only [Tr.vl]
    omega

/-- Beyond the message all ways are alike. -/
theorem fs_cut {u v : Nat → Nat} {n i : Nat} (hu : ∀ k, n ≤ k → k < i → u k = v k) : Fs u v i ↔ Fs u v (min i n) := by
  constructor
  · rintro ⟨k, hk, h1, h2⟩
    refine ⟨k, ?_, h1, h2⟩
    by_cases h : k < n
    · omega
    · have := hu k (by omega) hk
      omega
  · rintro ⟨k, hk, h1, h2⟩
    exact ⟨k, by omega, h1, h2⟩
end Go.Proofs.Ytgkcofjhajjjgaa
