/- Places of a hurt word, in plain numbers. -/
import Derived.Test.YtamcpmclnjngcaaRL
namespace Go.Proofs.Ytamcpmclnjngcaa
open Go.RowKit

theorem cv_congr {c S S' : Nat → Nat} {k : Nat} (h : ∀ i, i ≤ k → S i = S' i) : cv c S k = cv c S' k := gs_congr fun i _ => by rw [h (k - i) (by omega)]
theorem mis_congr {c S S' : Nat → Nat} {L k : Nat} (h : ∀ i, i ≤ k → S i = S' i) : mis c S L k = mis c S' L k := gs_congr fun i _ => by rw [h (k - i) (by omega)]
theorem Bm.congr {S S' c b : Nat → Nat} {L N : Nat} (h : Bm S c b L N) (e : ∀ k, k < N → S k = S' k) : Bm S' c b L N :=
  ⟨h.c0, h.cl, h.cd, h.ln, fun k h1 h2 => by rw [← cv_congr (fun i hi => e i (by omega))]; exact h.ft k h1 h2, h.bl, h.bd,
   fun h0 => ⟨fun k h1 h2 => by rw [← cv_congr (fun i hi => e i (by omega))]; exact (h.bz h0).1 k h1 h2, by
     have hl := h.ln
     rw [← cv_congr (fun i hi => e i (by omega))]; exact (h.bz h0).2⟩,
   fun c' L' h0 h1 h2 => h.mn c' L' h0 h1 (fun k h3 h4 => by rw [mis_congr (fun i hi => e i (by omega))]; exact h2 k h3 h4)⟩

theorem signs_told {n m t : Nat} {G C pl X S : Nat → Nat} (hp : Pls n m pl) (hn1 : 1 ≤ n) (hX : X = pwr n pl) (hS : S = syz n G (2 * t)) (hG : ∀ q, G q < 256) (hC : ∀ q, C q < 256) (hsame : ∀ q, q < n → (∀ k, k < m → pl k ≠ q) → C q = G q) (hclean : ∀ j, j < 2 * t → syn n C j = 0) : ∀ j, j < 2 * t → S j = gsy X (fun i => G (pl i) ^^^ C (pl i)) m j := fun j hj => by
  have hD : ∀ q, G q ^^^ C q < 256 := fun q => xor_lt8 (hG q) (hC q)
  rw [hS]
  unfold syz
  rw [if_pos hj]
  have e1 : syn n (fun q => G q ^^^ C q) j = syn n G j := by
    unfold syn
    rw [hz_add hG hC (gpw_lt j)]
    have := hclean j hj
    unfold syn at this
    rw [this, Nat.xor_zero]
  rw [← e1, syn_gs hD hn1, gs_places m pl _ hp.lt hp.inj (fun q hq h => by rw [hsame q hq h, Nat.xor_self, gm_zero_l])]
  unfold gsy
  refine gs_congr fun i _ => ?_
  rw [hX]
  rfl

theorem hor_more {c : Nat → Nat} (hc : ∀ i, c i < 256) {x L : Nat} (hx : x < 256) (hz : ∀ i, L < i → c i = 0) : ∀ d, hor c x (L + d) = gm (hor c x L) (gpow x d)
  | 0 => (gm_one_r (hor_lt hc x L)).symm
  | d + 1 => by
    show gm (hor c x (L + d)) x ^^^ c (L + d + 1) = gm (hor c x L) (gm (gpow x d) x)
    rw [hz (L + d + 1) (by omega), Nat.xor_zero, hor_more hc hx hz d, gm_assoc (hor_lt hc x L) (gpow_lt d) hx]

theorem gpow_ne {e : Nat} (d : Nat) : gpow (gpw e) d ≠ 0 := by rw [gpow_pw]; exact gpw_ne _

/-- The places in order, when the zeros are just they. -/
theorem hls_told {c : Nat → Nat} {n m : Nat} {pl : Nat → Nat} (hlt : ∀ i, i < m → pl i < n) (hinc : ∀ i k, i < k → k < m → pl i < pl k) (hz1 : ∀ k, k < n → (hz c (gpw (n - 1 - k)) 17 = 0 ↔ ∃ i, i < m ∧ pl i = k)) :
    (hls c n n).length = m ∧ ∀ i, i < m → lfn (hls c n n) i = pl i := by
  have key : ∀ k, k ≤ n → ∃ j, j ≤ m ∧ (hls c n k).length = j ∧ (∀ i, i < j → lfn (hls c n k) i = pl i ∧ pl i < k) ∧ ∀ i, j ≤ i → i < m → k ≤ pl i := by
    intro k
    induction k with
    | zero => exact fun _ => ⟨0, by omega, rfl, fun i hi => absurd hi (by omega), fun i _ _ => Nat.zero_le _⟩
    | succ k ih =>
      intro hk
      obtain ⟨j, h1, h2, h3, h4⟩ := ih (by omega)
      by_cases e : hz c (gpw (n - 1 - k)) 17 = 0
      · obtain ⟨i, hi, hik⟩ := (hz1 k (by omega)).1 e
        have hij : i = j := by
          rcases Nat.lt_trichotomy i j with h5 | h5 | h5
          · have := (h3 i h5).2; omega
          · exact h5
          · have := h4 j (Nat.le_refl _) (by omega)
            have := hinc j i h5 hi
            omega
        subst hij
        rw [hls_yes e]
        refine ⟨i + 1, by omega, by rw [List.length_append, List.length_singleton, h2], fun q hq => ?_, fun q h5 h6 => ?_⟩
        · by_cases e2 : q = i
          · subst e2
            rw [← h2, lfn_new, h2]
            exact ⟨hik.symm, by omega⟩
          · rw [lfn_old (by omega)]
            have := h3 q (by omega)
            exact ⟨this.1, by omega⟩
        · have := hinc i q (by omega) h6
          omega
      · rw [hls_no e]
        refine ⟨j, h1, h2, fun q hq => ⟨(h3 q hq).1, by have := (h3 q hq).2; omega⟩, fun q h5 h6 => ?_⟩
        have h7 := h4 q h5 h6
        have h8 : pl q ≠ k := fun h9 => e ((hz1 k (by omega)).2 ⟨q, h6, h9⟩)
        omega
  obtain ⟨j, h1, h2, h3, h4⟩ := key n (Nat.le_refl _)
  have hjm : j = m := by
    rcases Nat.lt_or_ge j m with h5 | h5
    · have := h4 j (Nat.le_refl _) h5
      have := hlt j h5
      omega
    · omega
  subst hjm
  exact ⟨h2, fun i hi => (h3 i hi).1⟩

/-- A hurt word: the places that are told. -/
theorem rule_places {n m t L : Nat} {G C pl X S c b : Nat → Nat} (hp : Pls n m pl) (hn : n ≤ 255) (hn1 : 1 ≤ n) (hm : m ≤ t) (ht : t ≤ 8) (hX : X = pwr n pl) (hS : S = syz n G (2 * t)) (hG : ∀ q, G q < 256) (hC : ∀ q, C q < 256) (hsame : ∀ q, q < n → (∀ k, k < m → pl k ≠ q) → C q = G q) (hclean : ∀ j, j < 2 * t → syn n C j = 0) (hne : ∀ i, i < m → G (pl i) ≠ C (pl i)) (hinc : ∀ i k, i < k → k < m → pl i < pl k) (h : Bm S c b L (2 * t)) :
    (hls c n n).length = m ∧ ∀ i, i < m → lfn (hls c n n) i = pl i := by
  have hXl : ∀ i, X i < 256 := fun i => by rw [hX]; exact pwr_lt _ _ _
  have hB := h.congr (signs_told hp hn1 hX hS hG hC hsame hclean)
  have hinj : ∀ i k, i < m → k < m → i ≠ k → X i ≠ X k := by rw [hX]; exact pwr_inj hp hn
  obtain ⟨hL, hzr⟩ := bm_told hXl (fun i => xor_lt8 (hG _) (hC _)) (fun i hi => xor_ne (hne i hi)) hinj hm hB
  refine hls_told hp.lt hinc (fun k hk => ?_)
  have hx := gpw_lt (n - 1 - k)
  have e1 : hz c (gpw (n - 1 - k)) 17 = gm (hor c (gpw (n - 1 - k)) L) (gpow (gpw (n - 1 - k)) (16 - L)) := by
    rw [hz_hor c _ 16, ← hor_more h.cl hx h.cd (16 - L)]
    congr 1
    omega
  have e2 : hz c (gpw (n - 1 - k)) 17 = 0 ↔ hor c (gpw (n - 1 - k)) L = 0 := by
    rw [e1]
    refine ⟨fun h0 => ?_, fun h0 => by rw [h0, gm_zero_l]⟩
    refine Classical.byContradiction fun hne2 => gpow_ne (16 - L) (gm_ne (hor_lt h.cl _ _) (gpow_lt _) h0 hne2)
  rw [e2, hzr _ hx]
  constructor
  · rintro ⟨i, hi, e3⟩
    refine ⟨i, hi, ?_⟩
    rw [hX] at e3
    have h5 := hp.lt i hi
    have := gpw_inj (by omega) (by omega) e3
    omega
  · rintro ⟨i, hi, rfl⟩
    exact ⟨i, hi, by rw [hX]; rfl⟩
end Go.Proofs.Ytamcpmclnjngcaa
