/- The shortest rule, sign by sign (Berlekamp and Massey), in plain numbers. -/
import Derived.Test.YtamcpmclnjngcaaGN
namespace Go.Proofs.Ytamcpmclnjngcaa
open Go.RowKit

/-- By how much a rule misses the sign k: all signs ahead. -/
def cv (c S : Nat → Nat) (k : Nat) : Nat := gs (fun i => gm (c i) (S (k - i))) (k + 1)

theorem gs_cut {f : Nat → Nat} {m : Nat} (h : ∀ i, m ≤ i → f i = 0) : ∀ n, m ≤ n → gs f n = gs f m := by
  intro n
  induction n with
  | zero => intro hm; obtain rfl : m = 0 := by omega
            rfl
  | succ n ih =>
    intro hm
    by_cases e : m = n + 1
    · subst e; rfl
    · show gs f n ^^^ f n = gs f m
      rw [h n (by omega), Nat.xor_zero]
      exact ih (by omega)

theorem cv_mis {c S : Nat → Nat} {L k : Nat} (hd : ∀ i, L < i → c i = 0) (hk : L ≤ k) : cv c S k = mis c S L k :=
  gs_cut (f := fun i => gm (c i) (S (k - i))) (m := L + 1) (fun i hi => by show gm (c i) (S (k - i)) = 0; rw [hd i (by omega)]; exact gm_zero_l _) (k + 1) (by omega)

/-- Moved by one. -/
def mv (b : Nat → Nat) (i : Nat) : Nat := if i = 0 then 0 else b (i - 1)

theorem cv_mv (b S : Nat → Nat) (k : Nat) : cv (mv b) S (k + 1) = cv b S k := by
  unfold cv
  rw [← gs_shift (fun i => gm (b i) (S (k - i))) (k + 1)]
  refine gs_congr fun i _ => ?_
  unfold mv
  by_cases e : i = 0
  · simp only [e, if_true]; exact gm_zero_l _
  · simp only [e, if_false]
    congr 2
    omega

theorem cv_plus {c b S : Nat → Nat} {d : Nat} (hc : ∀ i, c i < 256) (hb : ∀ i, b i < 256) (hd : d < 256) (hS : ∀ i, S i < 256) (k : Nat) : cv (fun i => c i ^^^ gm d (b i)) S k = cv c S k ^^^ gm d (cv b S k) := by
  unfold cv
  rw [gs_mul hd (fun i _ => gm_lt (hb i) _), ← gs_add]
  refine gs_congr fun i _ => ?_
  rw [gm_add_l _ (hc i) (gm_lt hd _), gm_assoc hd (hb i) (hS _)]

theorem cv_times {c S : Nat → Nat} {d : Nat} (hc : ∀ i, c i < 256) (hd : d < 256) (hS : ∀ i, S i < 256) (k : Nat) : cv (fun i => gm d (c i)) S k = gm d (cv c S k) := by
  unfold cv
  rw [gs_mul hd (fun i _ => gm_lt (hc i) _)]
  exact gs_congr fun i _ => gm_assoc hd (hc i) (hS _)

/-- The rule c of length L holds for the signs below N and none that does is shorter; b is what is taken in when it misses. -/
structure Bm (S c b : Nat → Nat) (L N : Nat) : Prop where
  c0 : c 0 = 1
  cl : ∀ i, c i < 256
  cd : ∀ i, L < i → c i = 0
  ln : L ≤ N
  ft : ∀ k, L ≤ k → k < N → cv c S k = 0
  bl : ∀ i, b i < 256
  bd : ∀ i, N - L < i → b i = 0
  bz : 0 < L → (∀ k, N - L ≤ k → k + 1 < N → cv b S k = 0) ∧ cv b S (N - 1) = 1
  mn : ∀ (c' : Nat → Nat) (L' : Nat), c' 0 = 1 → (∀ i, c' i < 256) → (∀ k, L' ≤ k → k < N → mis c' S L' k = 0) → L ≤ L'

theorem Bm.start (S : Nat → Nat) : Bm S (fun i => if i = 0 then 1 else 0) (fun i => if i = 0 then 1 else 0) 0 0 :=
  ⟨rfl, fun i => by split <;> omega, fun i hi => if_neg (by omega), Nat.le_refl _, fun k _ hk => by omega, fun i => by split <;> omega, fun i hi => if_neg (by omega), fun h => by omega, fun _ _ _ _ _ => Nat.zero_le _⟩

theorem mv_lt {b : Nat → Nat} (h : ∀ i, b i < 256) (i : Nat) : mv b i < 256 := by
  unfold mv
  split
  · omega
  · exact h _

/-- What is so of the moved b. -/
theorem Bm.moved {S c b : Nat → Nat} {L N : Nat} (h : Bm S c b L N) : (∀ i, N + 1 - L < i → mv b i = 0) ∧ (0 < L → (∀ k, N + 1 - L ≤ k → k < N → cv (mv b) S k = 0) ∧ cv (mv b) S N = 1) := by
  have hl := h.ln
  refine ⟨fun i hi => ?_, fun h0 => ⟨fun k hk hkN => ?_, ?_⟩⟩
  · unfold mv
    rw [if_neg (by omega)]
    exact h.bd _ (by omega)
  · obtain ⟨q, rfl⟩ : ∃ q, k = q + 1 := ⟨k - 1, by omega⟩
    rw [cv_mv]
    exact (h.bz h0).1 q (by omega) (by omega)
  · obtain ⟨q, rfl⟩ : ∃ q, N = q + 1 := ⟨N - 1, by omega⟩
    rw [cv_mv]
    exact (h.bz h0).2

/-- It does not miss. -/
theorem Bm.hit {S c b : Nat → Nat} {L N : Nat} (h : Bm S c b L N) (hm : cv c S N = 0) : Bm S c (mv b) L (N + 1) := by
  obtain ⟨m1, m2⟩ := h.moved
  refine ⟨h.c0, h.cl, h.cd, by have := h.ln; omega, fun k hk hkN => ?_, mv_lt h.bl, m1, fun h0 => ⟨fun k hk hkN => (m2 h0).1 k hk (by omega), (m2 h0).2⟩, fun c' L' h1 h2 h3 => h.mn c' L' h1 h2 (fun k hk hkN => h3 k hk (by omega))⟩
  by_cases e : k = N
  · subst e; exact hm
  · exact h.ft k hk (by omega)

/-- It misses, and is long enough. -/
theorem Bm.mend {S c b : Nat → Nat} {L N : Nat} (h : Bm S c b L N) (hS : ∀ i, S i < 256) (hL : N < 2 * L) : Bm S (fun i => c i ^^^ gm (cv c S N) (mv b i)) (mv b) L (N + 1) := by
  obtain ⟨m1, m2⟩ := h.moved
  have hd : cv c S N < 256 := gs_lt fun i _ => gm_lt (h.cl i) _
  have hp := fun k => cv_plus (S := S) h.cl (mv_lt h.bl) hd hS k
  refine ⟨?_, fun i => xor_lt8 (h.cl i) (gm_lt hd _), fun i hi => ?_, by have := h.ln; omega, fun k hk hkN => ?_, mv_lt h.bl, m1, fun h0 => ⟨fun k hk hkN => (m2 h0).1 k hk (by omega), (m2 h0).2⟩, fun c' L' h1 h2 h3 => h.mn c' L' h1 h2 (fun k hk hkN => h3 k hk (by omega))⟩
  · show c 0 ^^^ gm (cv c S N) 0 = 1
    rw [gm_zero_r hd, Nat.xor_zero]; exact h.c0
  · show c i ^^^ gm (cv c S N) (mv b i) = 0
    rw [h.cd i hi, m1 i (by omega), gm_zero_r hd]; rfl
  · rw [hp k]
    by_cases e : k = N
    · subst e; rw [(m2 (by omega)).2, gm_one_r hd, Nat.xor_self]
    · rw [h.ft k hk (by omega), (m2 (by omega)).1 k (by omega) (by omega), gm_zero_r hd]; rfl

/-- It misses, and grows. -/
theorem Bm.grow {S c b : Nat → Nat} {L N v : Nat} (h : Bm S c b L N) (hS : ∀ i, S i < 256) (hL : 2 * L ≤ N) (hm : cv c S N ≠ 0) (hv : v < 256) (hv1 : gm v (cv c S N) = 1) : Bm S (fun i => c i ^^^ gm (cv c S N) (mv b i)) (fun i => gm v (c i)) (N + 1 - L) (N + 1) := by
  obtain ⟨m1, m2⟩ := h.moved
  have hd : cv c S N < 256 := gs_lt fun i _ => gm_lt (h.cl i) _
  have hp := fun k => cv_plus (S := S) h.cl (mv_lt h.bl) hd hS k
  have ht := fun k => cv_times (S := S) h.cl hv hS k
  have hln := h.ln
  refine ⟨?_, fun i => xor_lt8 (h.cl i) (gm_lt hd _), fun i hi => ?_, by omega, fun k hk hkN => ?_, fun i => gm_lt hv _, fun i hi => ?_, fun _ => ⟨fun k hk hkN => ?_, ?_⟩, fun c' L' h1 h2 h3 => ?_⟩
  · show c 0 ^^^ gm (cv c S N) 0 = 1
    rw [gm_zero_r hd, Nat.xor_zero]; exact h.c0
  · show c i ^^^ gm (cv c S N) (mv b i) = 0
    rw [h.cd i (by omega), m1 i (by omega), gm_zero_r hd]; rfl
  · rw [hp k]
    by_cases e : k = N
    · subst e; rw [(m2 (by omega)).2, gm_one_r hd, Nat.xor_self]
    · rw [h.ft k (by omega) (by omega), (m2 (by omega)).1 k (by omega) (by omega), gm_zero_r hd]; rfl
  · show gm v (c i) = 0
    rw [h.cd i (by omega), gm_zero_r hv]
  · rw [ht k, h.ft k (by omega) (by omega), gm_zero_r hv]
  · show cv (fun i => gm v (c i)) S N = 1
    rw [ht N]; exact hv1
  · have := massey (S := S) h.cl h2 hS h1 (L := L) (N := N) (fun k hk hkN => by rw [← cv_mis h.cd hk]; exact h.ft k hk hkN) (by rw [← cv_mis h.cd hln]; exact hm) (L' := L') (fun k hk hkN => h3 k hk (by omega))
    omega

end Go.Proofs.Ytamcpmclnjngcaa
