/- The transform by halves is the transform. -/
import Derived.Test.YtabdondefoldaaaDoorF2
import Derived.Test.YtabdondefoldaaaDoorM5
namespace Go.Proofs.YtabdondefoldaaaDoor

/-- How two numbers of a transform meet. -/
def dmf (p sh : Int) (Tt : Nat → Int) (a b : Int) (t : Nat) : Int × Int := ((a + b) % p * sh % p, (a - b + p) * Tt t % p)

theorem Cg.neg {p a b : Int} (h : Cg p a b) : Cg p (-a) (-b) := by
  obtain ⟨t, rfl⟩ := h
  exact ⟨-t, by grind⟩

theorem Cg.sub {p a b c d : Int} (h : Cg p a b) (h' : Cg p c d) : Cg p (a - c) (b - d) := by
  rw [Int.sub_eq_add_neg, Int.sub_eq_add_neg]
  exact h.add h'.neg

theorem trn_cg (sh W p : Int) : ∀ t, Cg p (trn sh W p t) (sh * W ^ t)
  | 0 => by rw [Int.pow_zero, Int.mul_one]; exact Cg.refl _ _
  | t + 1 => by
    refine (cg_mod p _).trans ?_
    rw [Int.pow_succ, ← Int.mul_assoc]
    exact (trn_cg sh W p t).mul (Cg.refl _ _)

theorem pow_split {m r : Nat} (h : r + 1 ≤ m) : 2 ^ m / 2 ^ (r + 1) = 2 ^ (m - (r + 1)) ∧ 2 ^ (m - r) = 2 * 2 ^ (m - (r + 1)) := by
  refine ⟨Nat.pow_div h (by omega), ?_⟩
  rw [show m - r = (m - (r + 1)) + 1 by omega, Nat.pow_succ, Nat.mul_comm]

theorem sm_sub (f g : Nat → Int) : ∀ n, sm (fun i => f i - g i) n = sm f n - sm g n
  | 0 => rfl
  | n + 1 => by rw [sm, sm_sub f g n, sm, sm]; omega

theorem wfull {p W : Int} {m : Nat} (hm : 1 ≤ m) (h : Cg p (W ^ 2 ^ (m - 1)) (-1)) (q : Nat) : Cg p (W ^ (q * 2 ^ m)) 1 := by
  have e : q * 2 ^ m = 2 ^ (m - 1) * (2 * q) := by
    have : 2 ^ m = 2 ^ (m - 1) * 2 := by rw [← Nat.pow_succ]; congr 1; omega
    rw [this, Nat.mul_comm q, Nat.mul_assoc]
  rw [e, Int.pow_mul]
  refine (h.pow _).trans ?_
  rw [Int.pow_mul]
  rw [show ((-1 : Int) ^ 2) = 1 by decide, Int.one_pow]
  exact Cg.refl _ _

theorem dft_halves {p W sh : Int} {m : Nat} {xs : Nat → Int} (hW : 1 ≤ m → Cg p (W ^ 2 ^ (m - 1)) (-1)) : ∀ r, r ≤ m → ∀ b j, j < 2 ^ (m - r) → b < 2 ^ r →
    Cg p (trf (dmf p sh (trn sh W p)) (2 ^ m) xs r (b * 2 ^ (m - r) + j)) (sh ^ r * sm (fun q => xs (q * 2 ^ (m - r) + j) * W ^ ((q * 2 ^ (m - r) + j) * rho r b)) (2 ^ r))
  | 0, _, b, j, hj, hb => by
    have : b = 0 := by rw [Nat.pow_zero] at hb; omega
    subst this
    simp [trf, sm, rho]
    exact Cg.refl _ _
  | r + 1, hr, b, j, hj, hb => by
    have ih := dft_halves (sh := sh) (xs := xs) hW r (by omega)
    have hWm := hW (by omega)
    have hfull := wfull (by omega) hWm
    obtain ⟨e1, e2⟩ := pow_split hr
    rw [two_pow_twice] at hb
    have e3 : 2 ^ (m - (r + 1)) * 2 ^ r = 2 ^ (m - 1) := by rw [← Nat.pow_add]; congr 1; omega
    have e4 : 2 * 2 ^ (m - (r + 1)) * 2 ^ r = 2 ^ m := by rw [Nat.mul_assoc, e3, ← Nat.pow_succ']; congr 1; omega
    obtain ⟨h, hh⟩ : ∃ h, h = 2 ^ (m - (r + 1)) := ⟨_, rfl⟩
    rw [← hh] at hj e2 e3 e4
    rw [e2] at ih
    rw [← hh]
    show Cg p (nw (dmf p sh (trn sh W p)) (trf (dmf p sh (trn sh W p)) (2 ^ m) xs r) (2 ^ m / 2 ^ (r + 1)) r (b * h + j)) _
    rw [e1, ← hh, two_pow_twice, sm_two]
    obtain ⟨c, hc⟩ : ∃ c, c = b / 2 := ⟨_, rfl⟩
    have i0 := ih c j (by omega) (by omega)
    have i1 := ih c (h + j) (by omega) (by omega)
    generalize trf (dmf p sh (trn sh W p)) (2 ^ m) xs r = f at i0 i1 ⊢
    have hx0 : ∀ q, 2 * q * h + j = q * (2 * h) + j := fun q => by rw [Nat.mul_comm 2 q, Nat.mul_assoc]
    have hx1 : ∀ q, (2 * q + 1) * h + j = q * (2 * h) + (h + j) := fun q => by rw [Nat.add_mul, Nat.mul_comm 2 q, Nat.mul_assoc, Nat.one_mul, Nat.add_assoc]
    have hrho : rho (r + 1) b = rho r c + b % 2 * 2 ^ r := by rw [hc]; rfl
    rw [hrho]
    obtain ⟨R, hR⟩ : ∃ R, R = rho r c := ⟨_, rfl⟩
    rw [← hR] at i0 i1 ⊢
    obtain ⟨A, hA⟩ : ∃ A, A = fun q => xs (q * (2 * h) + j) * W ^ ((q * (2 * h) + j) * R) := ⟨_, rfl⟩
    obtain ⟨B, hB⟩ : ∃ B, B = fun q => xs (q * (2 * h) + (h + j)) * W ^ ((q * (2 * h) + (h + j)) * R) := ⟨_, rfl⟩
    rw [← hA] at i0
    rw [← hB] at i1
    unfold nw dmf
    rcases Nat.mod_two_eq_zero_or_one b with hb2 | hb2
    · have eb : b * h + j = c * (2 * h) + j := by rw [show b = 2 * c by omega]; exact hx0 c
      have em : (c * (2 * h) + j) % (2 * h) = j := by rw [Nat.mul_comm c, Nat.mul_add_mod, Nat.mod_eq_of_lt (by omega)]
      rw [eb, em, if_pos hj, hb2, Nat.zero_mul, Nat.add_zero]
      show Cg p ((f (c * (2 * h) + j) + f (c * (2 * h) + j + h)) % p * sh % p) _
      rw [show c * (2 * h) + j + h = c * (2 * h) + (h + j) by omega]
      refine (cg_mod p _).trans (((cg_mod p _).mul (Cg.refl p sh)).trans (((i0.add i1).mul (Cg.refl p sh)).trans ?_))
      have e5 : (fun k => xs (2 * k * h + j) * W ^ ((2 * k * h + j) * R) + xs ((2 * k + 1) * h + j) * W ^ (((2 * k + 1) * h + j) * R)) = fun k => A k + B k := by
        funext k
        rw [hx0, hx1, hA, hB]
      simp only [Nat.add_zero]
      rw [e5, sm_add, Int.pow_succ]
      generalize sm A (2 ^ r) = a0
      generalize sm B (2 ^ r) = b0
      generalize sh ^ r = s0
      have : (s0 * a0 + s0 * b0) * sh = s0 * sh * (a0 + b0) := by grind
      rw [this]
      exact Cg.refl _ _
    · have eb : b * h + j = c * (2 * h) + (h + j) := by rw [show b = 2 * c + 1 by omega]; exact hx1 c
      have em : (c * (2 * h) + (h + j)) % (2 * h) = h + j := by rw [Nat.mul_comm c, Nat.mul_add_mod, Nat.mod_eq_of_lt (by omega)]
      have em2 : (b * h + j) % h = j := by rw [Nat.mul_comm b, Nat.mul_add_mod, Nat.mod_eq_of_lt hj]
      rw [em2, eb, em, if_neg (by omega), hb2, Nat.one_mul]
      show Cg p ((f (c * (2 * h) + (h + j) - h) - f (c * (2 * h) + (h + j)) + p) * trn sh W p (j * 2 ^ r) % p) _
      rw [show c * (2 * h) + (h + j) - h = c * (2 * h) + j by omega]
      have ht := trn_cg sh W p (j * 2 ^ r)
      have hpz : Cg p (f (c * (2 * h) + j) - f (c * (2 * h) + (h + j)) + p) (sh ^ r * sm A (2 ^ r) - sh ^ r * sm B (2 ^ r)) := by
        have h1 := (i0.sub i1).add (show Cg p p 0 from ⟨1, by omega⟩)
        rw [Int.add_zero] at h1
        exact h1
      refine (cg_mod p _).trans ((hpz.mul ht).trans ?_)
      obtain ⟨X, hX⟩ : ∃ X, X = W ^ (j * 2 ^ r) := ⟨_, rfl⟩
      have t0 : ∀ q, Cg p (W ^ ((q * (2 * h) + j) * (R + 2 ^ r))) (W ^ ((q * (2 * h) + j) * R) * X) := by
        intro q
        have e : (q * (2 * h) + j) * (R + 2 ^ r) = (q * (2 * h) + j) * R + j * 2 ^ r + q * 2 ^ m := by
          rw [Nat.mul_add, Nat.add_mul (q * (2 * h)) j (2 ^ r), Nat.mul_assoc q (2 * h) (2 ^ r), e4]; omega
        rw [e, Int.pow_add, Int.pow_add, ← hX]
        have := (Cg.refl p (W ^ ((q * (2 * h) + j) * R) * X)).mul (hfull q)
        rw [Int.mul_one] at this
        exact this
      have t1 : ∀ q, Cg p (W ^ ((q * (2 * h) + (h + j)) * (R + 2 ^ r))) (-(W ^ ((q * (2 * h) + (h + j)) * R) * X)) := by
        intro q
        have e : (q * (2 * h) + (h + j)) * (R + 2 ^ r) = (q * (2 * h) + (h + j)) * R + j * 2 ^ r + q * 2 ^ m + 2 ^ (m - 1) := by
          rw [Nat.mul_add, Nat.add_mul (q * (2 * h)) (h + j) (2 ^ r), Nat.mul_assoc q (2 * h) (2 ^ r), e4, Nat.add_mul h j (2 ^ r), e3]; omega
        rw [e, Int.pow_add, Int.pow_add, Int.pow_add, ← hX]
        have h1 := ((Cg.refl p (W ^ ((q * (2 * h) + (h + j)) * R) * X)).mul (hfull q)).mul hWm
        have e6 : W ^ ((q * (2 * h) + (h + j)) * R) * X * 1 * -1 = -(W ^ ((q * (2 * h) + (h + j)) * R) * X) := by grind
        rw [e6] at h1
        exact h1
      have e7 : Cg p (sm (fun k => xs (2 * k * h + j) * W ^ ((2 * k * h + j) * (R + 2 ^ r)) + xs ((2 * k + 1) * h + j) * W ^ (((2 * k + 1) * h + j) * (R + 2 ^ r))) (2 ^ r)) (sm (fun k => X * (A k - B k)) (2 ^ r)) := by
        refine sm_cg _ (fun k _ => ?_)
        rw [hx0, hx1]
        have h1 := ((Cg.refl p (xs (k * (2 * h) + j))).mul (t0 k)).add ((Cg.refl p (xs (k * (2 * h) + (h + j)))).mul (t1 k))
        have e8 : xs (k * (2 * h) + j) * (W ^ ((k * (2 * h) + j) * R) * X) + xs (k * (2 * h) + (h + j)) * (-(W ^ ((k * (2 * h) + (h + j)) * R) * X)) = X * (A k - B k) := by rw [hA, hB]; grind
        rw [e8] at h1
        exact h1
      refine Cg.trans ?_ ((Cg.refl p (sh ^ (r + 1))).mul e7).symm
      rw [sm_mul, sm_sub, Int.pow_succ, ← hX]
      generalize sm A (2 ^ r) = a0
      generalize sm B (2 ^ r) = b0
      generalize sh ^ r = s0
      have : (s0 * a0 - s0 * b0) * (sh * X) = s0 * sh * (X * (a0 - b0)) := by grind
      rw [this]
      exact Cg.refl _ _

/-- The half power of both roots. -/
theorem half_root {n : Nat} {p : Int} (hp : Prm p) (hn : Whl n) (h2 : 2 ≤ n) (back : Bool) : Cg p (dW n p back ^ (n / 2)) (-1) := by
  have hb := hp.bounds
  have h1 := unit_half hp hn (by omega)
  have e : ((n : Int) / 2).toNat = n / 2 := by omega
  rw [e] at h1
  cases back
  · exact h1
  · show Cg p (ivV (unV n p) p ^ (n / 2)) (-1)
    have bu := unV_bounds (n := n) hp
    have hu : 1 ≤ unV n p := by
      rcases Int.lt_or_le (unV n p) 1 with h | h
      · exfalso
        have h0 : unV n p = 0 := by omega
        rw [h0, Int.zero_pow (by omega)] at h1
        obtain ⟨t, ht⟩ := h1
        have : p * t = 1 := by omega
        have h5 : t ≤ 0 ∨ 1 ≤ t := by omega
        rcases h5 with h5 | h5
        · have := Int.mul_nonneg (show 0 ≤ p by omega) (show 0 ≤ -t by omega)
          rw [Int.mul_neg] at this
          omega
        · have := Int.mul_le_mul_of_nonneg_left h5 (show 0 ≤ p by omega)
          omega
      · exact h
    have hv := inv_mul hp ⟨hu, by omega⟩
    have h3 := hv.pow (n / 2)
    rw [Int.mul_pow, Int.one_pow] at h3
    have h4 := (h1.mul (Cg.refl p (ivV (unV n p) p ^ (n / 2)))).symm.trans h3
    have h5 := h4.neg
    rw [Int.neg_mul, Int.one_mul, Int.neg_neg] at h5
    exact h5

theorem share_pow {n m : Nat} {p : Int} (hp : Prm p) (hn : n = 2 ^ m) (hm : m ≤ 8) (back : Bool) : Cg p (dS p back ^ m) (dB n p back) := by
  have hb := hp.bounds
  cases back
  · show Cg p ((1 : Int) ^ m) 1
    rw [Int.one_pow]
    exact Cg.refl _ _
  · show Cg p (ivV 2 p ^ m) (ivV n p)
    have hn2 : (n : Int) = 2 ^ m := by rw [hn, Int.natCast_pow]; rfl
    have h256 : (2 : Nat) ^ m ≤ 256 := by calc 2 ^ m ≤ 2 ^ 8 := Nat.pow_le_pow_right (by omega) hm
      _ = 256 := rfl
    have h1 := (inv_mul hp (a := 2) (by omega)).pow m
    rw [Int.mul_pow, Int.one_pow, ← hn2] at h1
    have h2 := inv_mul hp (a := (n : Int)) (by have := Nat.one_le_two_pow (n := m); omega)
    have h3 := h1.mul (Cg.refl p (ivV n p))
    have h4 := h2.mul (Cg.refl p (ivV 2 p ^ m))
    rw [Int.one_mul] at h3 h4
    have e : (n : Int) * ivV 2 p ^ m * ivV n p = n * ivV n p * ivV 2 p ^ m := by grind
    rw [e] at h3
    exact h4.symm.trans h3

/-- The k-th number of the transform, where it lies. -/
theorem dft_whole {n m : Nat} {p : Int} {xs : Nat → Int} {back : Bool} (hp : Prm p) (hn : n = 2 ^ m) (hm : m ≤ 8) (hw : Whl n)
    (hb : ∀ t, t < n → 0 ≤ trf (dmf p (dS p back) (trn (dS p back) (dW n p back) p)) n xs m t ∧ trf (dmf p (dS p back) (trn (dS p back) (dW n p back) p)) n xs m t < p) {k : Nat} (hk : k < n) :
    trf (dmf p (dS p back) (trn (dS p back) (dW n p back) p)) n xs m (rvp m k) = dft xs n (dW n p back) (dB n p back) p k := by
  have hpb := hp.bounds
  obtain ⟨hr1, hr2, _⟩ := rev_facts hm (show k < 2 ^ m by omega)
  have hW : 1 ≤ m → Cg p (dW n p back ^ 2 ^ (m - 1)) (-1) := by
    intro h1
    have h2 : 2 ^ m = 2 * 2 ^ (m - 1) := by rw [← Nat.pow_succ']; congr 1; omega
    have h3 := Nat.one_le_two_pow (n := m - 1)
    have h := half_root hp hw (by omega) back
    rw [show n / 2 = 2 ^ (m - 1) by omega] at h
    exact h
  have h := dft_halves (p := p) (W := dW n p back) (sh := dS p back) (xs := xs) hW m (Nat.le_refl _) (rvp m k) 0 (by rw [Nat.sub_self]; decide) hr2
  have bb := hb (rvp m k) (by rw [hn]; exact hr2)
  rw [Nat.sub_self, Nat.pow_zero, Nat.mul_one, Nat.add_zero, ← hn, hr1] at h
  have h2 := h.trans ((share_pow hp hn hm back).mul (Cg.refl p _))
  have e1 : sm (fun q => xs (q * 1 + 0) * dW n p back ^ ((q * 1 + 0) * k)) n = dsum xs (dW n p back) k n := by
    rw [dsum_sm]
    refine sm_congr _ (fun q _ => ?_)
    rw [Nat.mul_one, Nat.add_zero, Nat.mul_comm q k]
  rw [e1] at h2
  have h3 := h2.mod_eq
  rw [Int.emod_eq_of_lt bb.1 bb.2] at h3
  rw [h3]
  unfold dft
  exact ((Cg.refl p (dB n p back)).mul (cg_mod p (dsum xs (dW n p back) k n)).symm).mod_eq.trans (by rw [Int.mul_comm])
end Go.Proofs.YtabdondefoldaaaDoor
