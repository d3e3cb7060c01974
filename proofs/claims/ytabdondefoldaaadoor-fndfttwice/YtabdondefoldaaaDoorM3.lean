/- Modulo a prime: units, sums of their powers, the transform there and back. -/
import Derived.Test.YtabdondefoldaaaDoorM2
namespace Go.Proofs.YtabdondefoldaaaDoor

theorem halfN (p e : Nat) (h : 3 ^ e % p = p - 1) (hp : 2 ≤ p) : Cg (p : Int) ((3 : Int) ^ e) (-1) := by
  have h2 : ((3 ^ e % p : Nat) : Int) = (p : Int) - 1 := by rw [h]; omega
  rw [Int.natCast_emod, Int.natCast_pow] at h2
  have h3 := cg_mod (p : Int) (((3 : Nat) : Int) ^ e)
  rw [h2] at h3
  exact h3.symm.trans ⟨1, by omega⟩

theorem halfZ {p : Int} (hp : Prm p) : ∃ H : Nat, Cg p (3 ^ H) (-1) ∧ (H : Int) * 2 = p - 1 := by
  rcases hp with h | h | h
  · subst h; exact ⟨499122176, halfN 998244353 499122176 half_a (by decide), by decide⟩
  · subst h; exact ⟨83886080, halfN 167772161 83886080 half_b (by decide), by decide⟩
  · subst h; exact ⟨234881024, halfN 469762049 234881024 half_c (by decide), by decide⟩

theorem prm_256 {p : Int} (hp : Prm p) : (p - 1) % 256 = 0 := by
  rcases hp with h | h | h <;> subst h <;> decide

/-- A unit to half of its length. -/
theorem unit_half {n p : Int} (hp : Prm p) (hn : Whl n) (h2 : 2 ≤ n) : Cg p (unV n p ^ (n / 2).toNat) (-1) := by
  obtain ⟨H, hH, e⟩ := halfZ hp
  have h256 := prm_256 hp
  have hu : unV n p = 3 ^ ((p - 1) / n).toNat % p := by unfold unV; rw [if_pos ⟨hp, hn⟩]
  rw [hu]
  refine ((cg_mod p _).pow _).trans ?_
  rw [← Int.pow_mul]
  have ee : ((p - 1) / n).toNat * (n / 2).toNat = H := by
    rcases hn with h | h | h | h | h | h | h | h | h
    · omega
    · subst h; rw [show ((2 : Int) / 2).toNat = 1 from by decide]; omega
    · subst h; rw [show ((4 : Int) / 2).toNat = 2 from by decide]; omega
    · subst h; rw [show ((8 : Int) / 2).toNat = 4 from by decide]; omega
    · subst h; rw [show ((16 : Int) / 2).toNat = 8 from by decide]; omega
    · subst h; rw [show ((32 : Int) / 2).toNat = 16 from by decide]; omega
    · subst h; rw [show ((64 : Int) / 2).toNat = 32 from by decide]; omega
    · subst h; rw [show ((128 : Int) / 2).toNat = 64 from by decide]; omega
    · subst h; rw [show ((256 : Int) / 2).toNat = 128 from by decide]; omega
  rw [ee]
  exact hH

/-- A unit to its length. -/
theorem unit_full {n p : Int} (hp : Prm p) (hn : Whl n) : Cg p (unV n p ^ n.toNat) 1 := by
  by_cases h2 : 2 ≤ n
  · have h := unit_half hp hn h2
    have e : n.toNat = (n / 2).toNat + (n / 2).toNat := by rcases hn with h | h | h | h | h | h | h | h | h <;> subst h <;> omega
    rw [e, Int.pow_add]
    exact (h.mul h).trans (Cg.refl _ _)
  · have hb := hn.bounds
    have h1 : n = 1 := by omega
    subst h1
    have hpb := hp.bounds
    have hu : unV 1 p = 3 ^ ((p - 1) / 1).toNat % p := by unfold unV; rw [if_pos ⟨hp, hn⟩]
    rw [hu, show (1 : Int).toNat = 1 from rfl, Int.pow_succ, Int.pow_zero, Int.one_mul, Int.ediv_one]
    exact (cg_mod p _).trans (fermatZ hp (by omega))

/-- Powers summed. -/
def gs (x : Int) : Nat → Int
  | 0 => 0
  | k + 1 => gs x k + x ^ k

theorem gs_add (x : Int) (a : Nat) : ∀ b, gs x (a + b) = gs x a + x ^ a * gs x b
  | 0 => by simp [gs]
  | b + 1 => by
    rw [← Nat.add_assoc, gs, gs_add x a b, gs, Int.pow_add]
    grind

theorem gs_neg {p x : Int} {m : Nat} (h : Cg p (x ^ m) (-1)) : Cg p (gs x (m + m)) 0 := by
  rw [gs_add]
  have := (Cg.refl p (gs x m)).add (h.mul (Cg.refl p (gs x m)))
  exact this.trans ⟨0, by grind⟩

theorem neg_odd (k : Nat) : (-1 : Int) ^ (2 * k + 1) = -1 := by
  rw [Int.pow_succ, Int.pow_mul]
  have : (-1 : Int) ^ 2 = 1 := by decide
  rw [this, Int.one_pow]
  rfl

/-- The powers of a unit sum to 0. -/
theorem ortho {p : Int} : ∀ (t : Nat) (W : Int), Cg p (W ^ 2 ^ t) (-1) → ∀ d, 0 < d → d < 2 ^ (t + 1) → Cg p (gs (W ^ d) (2 ^ (t + 1))) 0 := by
  intro t
  induction t with
  | zero =>
    intro W h d h0 h1
    have hd : d = 1 := by simp at h1; omega
    subst hd
    rw [Int.pow_succ, Int.pow_zero, Int.one_mul]
    exact gs_neg (m := 1) (by simpa using h)
  | succ t ih =>
    intro W h d h0 h1
    rw [show 2 ^ (t + 1 + 1) = 2 ^ (t + 1) + 2 ^ (t + 1) by rw [Nat.pow_succ (n := 2) (m := t + 1)]; omega] at h1 ⊢
    by_cases ho : d % 2 = 1
    · refine gs_neg ?_
      rw [← Int.pow_mul, Nat.mul_comm, Int.pow_mul]
      refine (h.pow d).trans ?_
      rw [show d = 2 * (d / 2) + 1 by omega, neg_odd]
      exact Cg.refl _ _
    · have h2 : Cg p ((W ^ 2) ^ 2 ^ t) (-1) := by
        rw [← Int.pow_mul, show 2 * 2 ^ t = 2 ^ (t + 1) by rw [Nat.pow_succ]; omega]
        exact h
      have h3 := ih (W ^ 2) h2 (d / 2) (by omega) (by omega)
      rw [← Int.pow_mul, show 2 * (d / 2) = d by omega] at h3
      rw [gs_add]
      have := h3.add ((Cg.refl p ((W ^ d) ^ 2 ^ (t + 1))).mul h3)
      exact this.trans ⟨0, by grind⟩

/-- A sum. -/
def sm (f : Nat → Int) : Nat → Int
  | 0 => 0
  | n + 1 => sm f n + f n

theorem sm_cg {p : Int} {f g : Nat → Int} : ∀ n, (∀ i, i < n → Cg p (f i) (g i)) → Cg p (sm f n) (sm g n)
  | 0, _ => Cg.refl _ _
  | n + 1, h => (sm_cg n (fun i hi => h i (by omega))).add (h n (by omega))

theorem sm_add (f g : Nat → Int) : ∀ n, sm (fun i => f i + g i) n = sm f n + sm g n
  | 0 => rfl
  | n + 1 => by rw [sm, sm_add f g n, sm, sm]; omega

theorem sm_zero : ∀ n, sm (fun _ => 0) n = 0
  | 0 => rfl
  | n + 1 => by rw [sm, sm_zero n]; rfl

theorem sm_swap (f : Nat → Nat → Int) (m : Nat) : ∀ n, sm (fun k => sm (f k) n) m = sm (fun i => sm (fun k => f k i) m) n
  | 0 => sm_zero m
  | n + 1 => by
    have : (fun k => sm (f k) (n + 1)) = fun k => sm (f k) n + f k n := rfl
    rw [this, sm_add, sm_swap f m n, sm]

theorem sm_mul (c : Int) (f : Nat → Int) : ∀ n, sm (fun i => c * f i) n = c * sm f n
  | 0 => by simp [sm]
  | n + 1 => by rw [sm, sm_mul c f n, sm, Int.mul_add]

theorem sm_one {p : Int} {f : Nat → Int} {j : Nat} : ∀ n, j < n → (∀ i, i < n → i ≠ j → Cg p (f i) 0) → Cg p (sm f n) (f j)
  | n + 1, hj, h => by
    by_cases e : j = n
    · subst e
      have h0 : Cg p (sm f j) 0 := by
        have := sm_cg (p := p) (f := f) (g := fun _ => 0) j (fun i hi => h i (by omega) (by omega))
        rw [sm_zero] at this
        exact this
      have := h0.add (Cg.refl p (f j))
      rw [Int.zero_add] at this
      exact this
    · have h1 := sm_one n (by omega) (fun i hi hij => h i (by omega) hij)
      have := h1.add (h n (by omega) (fun e' => e e'.symm))
      rw [Int.add_zero] at this
      exact this

theorem gs_sm (x : Int) : ∀ n, gs x n = sm (fun k => x ^ k) n
  | 0 => rfl
  | n + 1 => by rw [gs, gs_sm x n, sm]

theorem dsum_sm (xs : Nat → Int) (w : Int) (k : Nat) : ∀ n, dsum xs w k n = sm (fun i => xs i * w ^ (k * i)) n
  | 0 => rfl
  | n + 1 => by rw [dsum, dsum_sm xs w k n, sm]

/-- The powers of a unit at whole lengths sum to 0. -/
theorem gs_whole {p W : Int} {n d : Nat} (hn : Whl n) (hW : Cg p (W ^ (n / 2)) (-1)) (h0 : 0 < d) (h1 : d < n) : Cg p (gs (W ^ d) n) 0 := by
  have key : ∃ t, n = 2 ^ (t + 1) := by
    rcases hn with h | h | h | h | h | h | h | h | h
    · omega
    · exact ⟨0, by omega⟩
    · exact ⟨1, by omega⟩
    · exact ⟨2, by omega⟩
    · exact ⟨3, by omega⟩
    · exact ⟨4, by omega⟩
    · exact ⟨5, by omega⟩
    · exact ⟨6, by omega⟩
    · exact ⟨7, by omega⟩
  obtain ⟨t, rfl⟩ := key
  have e : 2 ^ (t + 1) / 2 = 2 ^ t := by rw [Nat.pow_succ]; omega
  rw [e] at hW
  exact ortho t W hW d h0 h1

theorem pow_swap (W : Int) (k i : Nat) : W ^ (k * i) = (W ^ i) ^ k := by rw [← Int.pow_mul, Nat.mul_comm]

/-- The transform and back. -/
theorem dft_back {p W V b : Int} {n : Nat} {xs : Nat → Int} (hp : Prm p) (hn : Whl n) (hW : 2 ≤ n → Cg p (W ^ (n / 2)) (-1)) (hV : Cg p (W * V) 1) (hb : Cg p (n * b) 1) (hx : ∀ k, k < n → 0 ≤ xs k ∧ xs k ≤ p - 1) {j : Nat} (hj : j < n) :
    dft (dft xs n W 1 p) n V b p j = xs j := by
  have hpb := hp.bounds
  have hV2 : 2 ≤ n → Cg p (V ^ (n / 2)) (-1) := by
    intro h2
    have h1 : Cg p (W ^ (n / 2) * V ^ (n / 2)) 1 := by
      have := hV.pow (n / 2)
      rw [Int.mul_pow, Int.one_pow] at this
      exact this
    have h3 := (hW h2).mul (Cg.refl p (V ^ (n / 2)))
    have h4 := h3.symm.trans h1
    have h5 := (Cg.refl p (-1)).mul h4
    exact (show Cg p (V ^ (n / 2)) (-1 * (-1 * V ^ (n / 2))) from ⟨0, by grind⟩).trans (h5.trans ⟨0, by grind⟩)
  have hy : ∀ k, Cg p (dft xs n W 1 p k) (sm (fun i => xs i * W ^ (k * i)) n) := by
    intro k
    unfold dft
    rw [← dsum_sm]
    refine (cg_mod p _).trans ?_
    have := (cg_mod p (dsum xs W k n)).mul (Cg.refl p 1)
    rw [Int.mul_one (dsum xs W k n)] at this
    exact this
  have h1 : Cg p (dsum (dft xs n W 1 p) V j n) (sm (fun k => sm (fun i => xs i * W ^ (k * i) * V ^ (j * k)) n) n) := by
    rw [dsum_sm]
    refine sm_cg n (fun k _ => ?_)
    have := (hy k).mul (Cg.refl p (V ^ (j * k)))
    refine this.trans ?_
    have e : sm (fun i => xs i * W ^ (k * i) * V ^ (j * k)) n = sm (fun i => xs i * W ^ (k * i)) n * V ^ (j * k) := by
      rw [Int.mul_comm, ← sm_mul]
      congr 1
      funext i
      rw [Int.mul_comm]
    rw [e]
    exact Cg.refl _ _
  rw [sm_swap] at h1
  have inner : ∀ i, i < n → Cg p (sm (fun k => xs i * W ^ (k * i) * V ^ (j * k)) n) (if i = j then xs i * n else 0) := by
    intro i hi
    have e1 : sm (fun k => xs i * W ^ (k * i) * V ^ (j * k)) n = xs i * sm (fun k => W ^ (k * i) * V ^ (j * k)) n := by
      rw [← sm_mul]
      congr 1
      funext k
      rw [Int.mul_assoc]
    rw [e1]
    have wv : ∀ m, Cg p (W ^ m * V ^ m) 1 := by
      intro m
      have := hV.pow m
      rw [Int.mul_pow, Int.one_pow] at this
      exact this
    by_cases c : i = j
    · subst c
      rw [if_pos rfl]
      refine (Cg.refl p (xs i)).mul ?_
      have h2 : Cg p (sm (fun k => W ^ (k * i) * V ^ (i * k)) n) (sm (fun _ => 1) n) := sm_cg n (fun k _ => by
        rw [Nat.mul_comm i k]
        exact wv _)
      refine h2.trans ?_
      have : ∀ m : Nat, sm (fun _ => 1) m = m := by
        intro m
        induction m with
        | zero => rfl
        | succ m ih => rw [sm, ih]; omega
      rw [this]
      exact Cg.refl _ _
    · rw [if_neg c]
      have h3 : Cg p (sm (fun k => W ^ (k * i) * V ^ (j * k)) n) 0 := by
        rcases Nat.lt_or_gt_of_ne c with h | h
        · have h4 : Cg p (sm (fun k => W ^ (k * i) * V ^ (j * k)) n) (sm (fun k => (V ^ (j - i)) ^ k) n) := sm_cg n (fun k _ => by
            have e : V ^ (j * k) = V ^ (k * i) * (V ^ (j - i)) ^ k := by
              rw [← Int.pow_mul, ← Int.pow_add]
              congr 1
              rw [Nat.mul_comm (j - i) k, ← Nat.mul_add, Nat.mul_comm j k]
              congr 1
              omega
            rw [e, ← Int.mul_assoc]
            have := (wv (k * i)).mul (Cg.refl p ((V ^ (j - i)) ^ k))
            rw [Int.one_mul] at this
            exact this)
          refine h4.trans ?_
          rw [← gs_sm]
          exact gs_whole hn (hV2 (by omega)) (by omega) (by omega)
        · have h4 : Cg p (sm (fun k => W ^ (k * i) * V ^ (j * k)) n) (sm (fun k => (W ^ (i - j)) ^ k) n) := sm_cg n (fun k _ => by
            have e : W ^ (k * i) = (W ^ (i - j)) ^ k * W ^ (k * j) := by
              rw [← Int.pow_mul, ← Int.pow_add]
              congr 1
              rw [Nat.mul_comm (i - j) k, ← Nat.mul_add]
              congr 1
              omega
            rw [e, Int.mul_assoc, Nat.mul_comm j k]
            have := (Cg.refl p ((W ^ (i - j)) ^ k)).mul (wv (k * j))
            rw [Int.mul_one] at this
            exact this)
          refine h4.trans ?_
          rw [← gs_sm]
          exact gs_whole hn (hW (by omega)) (by omega) (by omega)
      have := (Cg.refl p (xs i)).mul h3
      rw [Int.mul_zero] at this
      exact this
  have h2 := sm_cg n inner
  have h3 : Cg p (sm (fun i => if i = j then xs i * n else 0) n) (xs j * n) := by
    have := sm_one (p := p) (f := fun i => if i = j then xs i * (n : Int) else 0) (j := j) n hj (fun i _ hij => by
      rw [if_neg hij]
      exact Cg.refl _ _)
    simpa using this
  have h4 := h1.trans (h2.trans h3)
  have h5 : Cg p (dft (dft xs n W 1 p) n V b p j) (xs j) := by
    unfold dft
    refine (cg_mod p _).trans ?_
    refine ((cg_mod p _).mul (Cg.refl p b)).trans ?_
    refine (h4.mul (Cg.refl p b)).trans ?_
    rw [Int.mul_assoc]
    have := (Cg.refl p (xs j)).mul hb
    rw [Int.mul_one] at this
    exact this
  have h6 := h5.mod_eq
  have hr := hx j hj
  rw [Int.emod_eq_of_lt hr.1 (by omega)] at h6
  rw [← h6]
  unfold dft
  exact (Int.emod_emod_of_dvd _ (Int.dvd_refl p)).symm
end Go.Proofs.YtabdondefoldaaaDoor
