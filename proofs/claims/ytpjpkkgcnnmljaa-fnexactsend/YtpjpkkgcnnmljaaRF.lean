/- What filled tells, in plain numbers. -/
import Derived.Test.YtpjpkkgcnnmljaaRE
import Derived.Test.YtpjpkkgcnnmljaaGN
namespace Go.Proofs.Ytpjpkkgcnnmljaa
open Go.RowKit

theorem hz_hor (c : Nat → Nat) (x : Nat) : ∀ k, hz c x (k + 1) = hor c x k
  | 0 => by
    show gm 0 x ^^^ c 0 = c 0
    rw [gm_zero_l, Nat.zero_xor]
  | k + 1 => by
    show gm (hz c x (k + 1)) x ^^^ c (k + 1) = gm (hor c x k) x ^^^ c (k + 1)
    rw [hz_hor c x k]

/-- A sign as a sum over the places. -/
theorem syn_gs {c : Nat → Nat} (hc : ∀ i, c i < 256) {n : Nat} (hn : 1 ≤ n) (j : Nat) : syn n c j = gs (fun q => gm (c q) (gpow (gpw (n - 1 - q)) j)) n := by
  obtain ⟨L, rfl⟩ : ∃ L, n = L + 1 := ⟨n - 1, by omega⟩
  unfold syn
  rw [hz_hor, ← hor_gs hc (gpw_lt j) L]
  refine gs_congr fun i _ => ?_
  rw [gpow_pw, gpow_pw, Nat.add_sub_cancel, Nat.mul_comm]

theorem gs_split (f g h : Nat → Nat) (n : Nat) (e : ∀ i, i < n → f i = g i ^^^ h i) : gs f n = gs g n ^^^ gs h n := by
  rw [← gs_add, gs_congr e]

/-- A sum that lives at some places alone. -/
theorem gs_places {n : Nat} : ∀ (m : Nat) (pl F : Nat → Nat), (∀ k, k < m → pl k < n) → (∀ i k, i < m → k < m → pl i = pl k → i = k) → (∀ q, q < n → (∀ k, k < m → pl k ≠ q) → F q = 0) → gs F n = gs (fun i => F (pl i)) m
  | 0, pl, F, _, _, h => gs_zero fun i hi => h i hi (fun k hk => absurd hk (by omega))
  | m + 1, pl, F, hl, hi, h => by
    have h2 := gs_places m pl (fun q => if q = pl m then 0 else F q) (fun k hk => hl k (by omega)) (fun i k hi1 hk => hi i k (by omega) (by omega)) (fun q hq hk => by
      show (if q = pl m then 0 else F q) = 0
      by_cases e : q = pl m
      · rw [if_pos e]
      · rw [if_neg e]
        refine h q hq (fun k hk2 => ?_)
        by_cases e2 : k = m
        · subst e2; exact fun e3 => e e3.symm
        · exact hk k (by omega))
    have h3 := gs_one (f := fun q => if q = pl m then F q else 0) (n := n) (p := pl m) (hl m (by omega)) (fun i _ hne => if_neg hne)
    rw [gs_split F (fun q => if q = pl m then 0 else F q) (fun q => if q = pl m then F q else 0) n (fun i _ => by
      by_cases e : i = pl m
      · simp [e]
      · simp [e]), h2, h3]
    show _ ^^^ (if pl m = pl m then F (pl m) else 0) = gs (fun i => F (pl i)) m ^^^ F (pl m)
    rw [if_pos rfl]
    congr 1
    refine gs_congr fun i hi2 => if_neg (fun e => ?_)
    have := hi i m (by omega) (by omega) e
    omega

theorem gs_more {f : Nat → Nat} {k : Nat} : ∀ d, (∀ j, k ≤ j → f j = 0) → gs f (k + d) = gs f k
  | 0, _ => rfl
  | d + 1, h => by
    show gs f (k + d) ^^^ f (k + d) = gs f k
    rw [h (k + d) (by omega), Nat.xor_zero, gs_more d h]

/-- An amount is what it should be. -/
theorem amt_told {X e S : Nat → Nat} {m p T : Nat} (hX : ∀ i, X i < 256) (he : ∀ i, e i < 256) (hp : p < m) (hm : m ≤ T) (hT : T ≤ 16) (hinj : ∀ i k, i < m → k < m → i ≠ k → X i ≠ X k) (hS : ∀ j, j < T → S j = gsy X e m j) : amt X m S p = e p := by
  have hd := (gdeg_le p m).2 hp
  have hw := gwo_ok hX p m
  have e1 : gs (fun j => gm (gwo X p m j) (S j)) 16 = gm (e p) (gpr X p (X p) m) := by
    obtain ⟨d, hd2⟩ : ∃ d, 16 = gdeg p m + 1 + d := ⟨16 - (gdeg p m + 1), by omega⟩
    rw [hd2, gs_more d (fun j hj => by rw [hw.2 j hj, gm_zero_l]), ← amount hX he hp]
    exact gs_congr fun j hj => by rw [hS j (by omega)]
  have hne : gpr X p (X p) m ≠ 0 := gpr_own hX (fun i hi hip => hinj i p hi hp hip)
  unfold amt
  rw [e1, gm_assoc (he p) gpr_lt (giv_lt _), giv_ok gpr_lt hne, gm_one_r (he p)]

theorem fld_out {X S pl G : Nat → Nat} {m q : Nat} : ∀ k, (∀ i, i < k → pl i ≠ q) → fld X m S pl G k q = G q
  | 0, _ => rfl
  | k + 1, h => by
    show (if q = pl k then _ else _) = _
    rw [if_neg (fun e => h k (by omega) e.symm)]
    exact fld_out k (fun i hi => h i (by omega))
theorem fld_in {X S pl G : Nat → Nat} {m i : Nat} : ∀ k, i < k → (∀ a b, a < k → b < k → pl a = pl b → a = b) → fld X m S pl G k (pl i) = G (pl i) ^^^ amt X m S i
  | 0, h, _ => absurd h (by omega)
  | k + 1, h, hi => by
    show (if pl i = pl k then _ else _) = _
    by_cases e : i = k
    · subst e
      rw [if_pos rfl, fld_out i (fun a ha e2 => by have := hi a i (by omega) (by omega) e2; omega)]
    · rw [if_neg (fun e2 => e (hi i k (by omega) (by omega) e2))]
      exact fld_in k (by omega) (fun a b ha hb => hi a b (by omega) (by omega))

theorem pwr_inj {n m : Nat} {pl : Nat → Nat} (hp : Pls n m pl) (hn : n ≤ 255) : ∀ i k, i < m → k < m → i ≠ k → pwr n pl i ≠ pwr n pl k := fun i k hi hk hne e => by
  have h1 := hp.lt i hi
  have h2 := hp.lt k hk
  have := gpw_inj (by omega) (by omega) e
  exact hne (hp.inj i k hi hk (by omega))

/-- Where a clean word differs at the places alone, it is what filled tells. -/
theorem fld_told {n m t : Nat} {G C pl X S : Nat → Nat} (hp : Pls n m pl) (hn : n ≤ 255) (hn1 : 1 ≤ n) (hm : m ≤ 2 * t) (ht : t ≤ 8) (hX : X = pwr n pl) (hS : S = syz n G (2 * t)) (hG : ∀ q, G q < 256) (hC : ∀ q, C q < 256) (hsame : ∀ q, q < n → (∀ k, k < m → pl k ≠ q) → C q = G q) (hclean : ∀ j, j < 2 * t → syn n C j = 0) : ∀ q, q < n → fld X m S pl G m q = C q := by
  have hXl : ∀ i, X i < 256 := fun i => by rw [hX]; exact pwr_lt _ _ _
  have hD : ∀ q, G q ^^^ C q < 256 := fun q => xor_lt8 (hG q) (hC q)
  have hSj : ∀ j, j < 2 * t → S j = gsy X (fun i => G (pl i) ^^^ C (pl i)) m j := fun j hj => by
    rw [hS]
    unfold syz
    rw [if_pos hj]
    have e1 : syn n (fun q => G q ^^^ C q) j = syn n G j := by
      unfold syn
      rw [hz_add hG hC (gpw_lt j)]
      have := hclean j hj
      unfold syn at this
      rw [this, Nat.xor_zero]
    rw [← e1, syn_gs hD hn1, gs_places m pl _ hp.lt hp.inj (fun q hq h => by rw [hsame q hq h, Nat.xor_self, gm_zero_l])]
    unfold gsy
    refine gs_congr fun i _ => ?_
    rw [hX]
    rfl
  intro q hq
  by_cases h : ∃ k, k < m ∧ pl k = q
  · obtain ⟨k, hk, rfl⟩ := h
    rw [fld_in m hk hp.inj, amt_told hXl (fun i => hD _) hk hm (by omega) (by rw [hX]; exact pwr_inj hp hn) hSj, xor_aab]
  · have h2 : ∀ k, k < m → pl k ≠ q := fun k hk e => h ⟨k, hk, e⟩
    rw [fld_out m h2, hsame q hq h2]
end Go.Proofs.Ytpjpkkgcnnmljaa
