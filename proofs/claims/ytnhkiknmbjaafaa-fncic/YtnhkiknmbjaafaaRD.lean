/- Combs and sums in plain numbers; the program's Comb and Gather. -/
import Derived.Test.YtnhkiknmbjaafaaRC
namespace Go.Proofs.Ytnhkiknmbjaafaa
open Go.RowKit

/-- What is told: a list in memory of the call's own, and a bool. -/
def Pst (w w' : World) (e : Ending) (N : Nat) (ys : Nat → Int) (ok : Bool) : Prop := ∃ u, e = .returned (.tuple #[u, .bool ok]) ∧ w'.ownsRow w.heap.size 3 1 u N (ils ys N) ∧ Below w.heap.size w w'

/-- The sample m places ahead of k, 0 where there is none. -/
def aheadOf (m : Nat) (xs : Nat → Int) (k : Nat) : Int := if m ≤ k then xs (k - m) else 0

/-- A comb. -/
def cmb (m : Nat) (xs : Nat → Int) (k : Nat) : Int := xs k - aheadOf m xs k

/-- The ring behind k samples. -/
def Rin (m : Nat) (xs : Nat → Int) (k : Nat) (f : Nat → Int) : Prop := (∀ i, i < k → k ≤ i + m → f (i % m) = xs i) ∧ ∀ j, k ≤ j → j < m → f j = 0

theorem Rin.start (m : Nat) (xs : Nat → Int) : Rin m xs 0 (fun _ => 0) := ⟨fun i hi => absurd hi (by omega), fun _ _ _ => rfl⟩

theorem Rin.at {m : Nat} {xs : Nat → Int} {k : Nat} {f : Nat → Int} (h : Rin m xs k f) (hm : 0 < m) : f (k % m) = aheadOf m xs k := by
  unfold aheadOf
  by_cases h1 : m ≤ k
  · rw [if_pos h1, ← h.1 (k - m) (by omega) (by omega)]
    congr 1
    conv => lhs; rw [show k = k - m + m by omega]
    exact Nat.add_mod_right _ _
  · rw [if_neg h1, Nat.mod_eq_of_lt (by omega)]
    exact h.2 k (Nat.le_refl _) (by omega)

theorem Rin.step {m : Nat} {xs : Nat → Int} {k : Nat} {f : Nat → Int} (h : Rin m xs k f) (_ : 0 < m) : Rin m xs (k + 1) (fun i => if i = k % m then xs k else f i) := by
  refine ⟨fun i hi hk => ?_, fun j hj hjm => ?_⟩
  · show (if i % m = k % m then xs k else f (i % m)) = xs i
    by_cases hik : i = k
    · subst hik; rw [if_pos rfl]
    · rw [if_neg, h.1 i (by omega) (by omega)]
      intro e
      have h1 : (k - i) % m = 0 := Nat.sub_mod_eq_zero_of_mod_eq e.symm
      rw [Nat.mod_eq_of_lt (by omega)] at h1
      omega
  · show (if j = k % m then xs k else f j) = 0
    rw [if_neg (by rw [Nat.mod_eq_of_lt (by omega)]; omega)]
    exact h.2 j (by omega) hjm

/-- The sum of the j samples from k back. -/
def psum (xs : Nat → Int) (k : Nat) : Nat → Int
  | 0 => 0
  | j + 1 => psum xs k j + xs (k - j)

theorem psum_next (xs : Nat → Int) (k : Nat) : ∀ j, psum xs (k + 1) (j + 1) = xs (k + 1) + psum xs k j
  | 0 => by simp [psum]
  | j + 1 => by
    have := psum_next xs k j
    unfold psum
    rw [this, show k + 1 - (j + 1) = k - j by omega]
    omega

/-- What a gathering has gathered behind k samples. -/
def gsr (m : Nat) (xs : Nat → Int) : Nat → Int
  | 0 => 0
  | k + 1 => gsr m xs k + cmb m xs k

/-- The sums that Gather tells. -/
def gat (m : Nat) (xs : Nat → Int) (k : Nat) : Int := psum xs k (min m (k + 1))

theorem gsr_eq (m : Nat) (xs : Nat → Int) (hm : 0 < m) : ∀ k, gsr m xs (k + 1) = gat m xs k
  | 0 => by
    unfold gat
    rw [Nat.min_eq_right (by omega)]
    simp only [gsr, psum, cmb, aheadOf]
    rw [if_neg (by omega)]
    simp
  | k + 1 => by
    have ih := gsr_eq m xs hm k
    unfold gat at *
    rw [show gsr m xs (k + 1 + 1) = gsr m xs (k + 1) + cmb m xs (k + 1) from rfl, ih]
    unfold cmb aheadOf
    by_cases h : m ≤ k + 1
    · rw [if_pos h, Nat.min_eq_left h, Nat.min_eq_left (by omega)]
      obtain ⟨m', rfl⟩ : ∃ m', m = m' + 1 := ⟨m - 1, by omega⟩
      rw [psum_next, show k + 1 - (m' + 1) = k - m' by omega]
      show psum xs k m' + xs (k - m') + (xs (k + 1) - xs (k - m')) = _
      omega
    · rw [if_neg h, Nat.min_eq_right (by omega), Nat.min_eq_right (by omega), psum_next]
      omega

/-- Numbers of at most 2^40 in size. -/
abbrev Bnd (n : Nat) (xs : Nat → Int) : Prop := ∀ k, k < n → -1099511627776 ≤ xs k ∧ xs k ≤ 1099511627776

theorem psum_bounds {n : Nat} {xs : Nat → Int} {M : Int} (h : ∀ k, k < n → -M ≤ xs k ∧ xs k ≤ M) {k : Nat} (hk : k < n) : ∀ j : Nat, -(M * (j : Int)) ≤ psum xs k j ∧ psum xs k j ≤ M * (j : Int)
  | 0 => by simp [psum]
  | j + 1 => by
    have h1 := psum_bounds h hk j
    have h2 := h (k - j) (by omega)
    have e : M * ((j + 1 : Nat) : Int) = M * (j : Int) + M := by rw [Int.natCast_add, Int.mul_add]; simp
    rw [e]
    unfold psum
    omega

theorem gsr_bounds {m n : Nat} {xs : Nat → Int} (hm : 0 < m) (hm5 : m ≤ 512) (h : Bnd n xs) {k : Nat} (hk : k ≤ n) : -1125899906842624 ≤ gsr m xs k ∧ gsr m xs k ≤ 1125899906842624 := by
  match k, hk with
  | 0, _ => simp [gsr]
  | k + 1, hk =>
    rw [gsr_eq m xs hm]
    unfold gat
    have h1 := psum_bounds (M := 1099511627776) h (k := k) (by omega) (min m (k + 1))
    have h2 : ((min m (k + 1) : Nat) : Int) ≤ 512 := by omega
    have h3 : (0 : Int) ≤ ((min m (k + 1) : Nat) : Int) := by omega
    omega

theorem ahead_bounds {m n : Nat} {xs : Nat → Int} (h : Bnd n xs) {k : Nat} (hk : k < n) : -1099511627776 ≤ aheadOf m xs k ∧ aheadOf m xs k ≤ 1099511627776 := by
  unfold aheadOf
  by_cases h1 : m ≤ k
  · rw [if_pos h1]; exact h _ (by omega)
  · rw [if_neg h1]; omega

theorem combs_run {w : World} {v : Value} {n m B C P : Nat} {xs : Nat → Int} (hv : Il w v n xs) (hn : n ≤ 1048576) (hx : Bnd n xs) (h0 : 0 < m) (hm : m ≤ 512) (hc : Cb w B C P m (fun _ => 0) 0) (hl : 0 < n → ∀ b off n' c, v = .slice (some ⟨b, off, none⟩) n' c → ¬ CbD C P b) :
    Calls Try.prog 17 #[.iface 61 (.pointer (some ⟨C, 0, none⟩)), v] w fun e w' => ∃ v', e = .returned v' ∧ w'.ownsRow w.heap.size 3 1 v' n (ils (cmb m xs) n) ∧ Kd (CbD C P) w w' := by
  have l1 := hc.rg.lt
  have l2 := (own_lt hc.own).2
  refine (runC hv hn ⟨C, 0, none⟩ (CbD C P) (CbD C P) (fun k W => ∃ f, Rin m xs k f ∧ Cb W B C P m f (k % m)) (cmb m xs) ?_ (by rintro g (rfl | rfl) <;> omega) (by rintro g (rfl | rfl) <;> omega) hl ?_ ⟨_, Rin.start _ _, by rw [Nat.zero_mod]; exact hc⟩).mono ?_
  · rintro k W W' ⟨f, h1, h2⟩ he
    exact ⟨f, h1, h2.block he⟩
  · rintro k W hk ⟨f, h1, h2⟩
    have e1 := h1.at h0
    refine (cStep h2 hm (hx k hk) (by rw [e1]; exact ahead_bounds hx hk)).mono ?_
    rintro e W' ⟨rfl, h3, h4⟩
    refine ⟨by rw [e1]; rfl, ⟨_, h1.step h0, ?_⟩, h4⟩
    rw [Nat.mod_add_mod] at h3
    exact h3
  · rintro e w' ⟨v', rfl, h1, _, h3⟩
    exact ⟨v', rfl, h1, h3⟩

theorem gats_run {w : World} {v : Value} {n m B G C P : Nat} {xs : Nat → Int} (hv : Il w v n xs) (hn : n ≤ 1048576) (hx : Bnd n xs) (h0 : 0 < m) (hm : m ≤ 512) (hc : Gt w B G C P m (fun _ => 0) 0 0) (hl : 0 < n → ∀ b off n' c, v = .slice (some ⟨b, off, none⟩) n' c → ¬ GtD G C P b) :
    Calls Try.prog 17 #[.iface 39 (.pointer (some ⟨G, 0, none⟩)), v] w fun e w' => ∃ v', e = .returned v' ∧ w'.ownsRow w.heap.size 3 1 v' n (ils (gat m xs) n) ∧ Kd (GtD G C P) w w' := by
  have l0 := hc.rg.lt
  have l1 := hc.cb.rg.lt
  have l2 := (own_lt hc.cb.own).2
  refine (runG hv hn ⟨G, 0, none⟩ (GtD G C P) (GtD G C P) (fun k W => ∃ f, Rin m xs k f ∧ Gt W B G C P m f (k % m) (gsr m xs k)) (gat m xs) ?_ (by rintro g (rfl | rfl | rfl) <;> omega) (by rintro g (rfl | rfl | rfl) <;> omega) hl ?_ ⟨_, Rin.start _ _, by rw [Nat.zero_mod]; exact hc⟩).mono ?_
  · rintro k W W' ⟨f, h1, h2⟩ he
    exact ⟨f, h1, h2.block he⟩
  · rintro k W hk ⟨f, h1, h2⟩
    have e1 := h1.at h0
    refine (gStep h2 hm (hx k hk) (by rw [e1]; exact ahead_bounds hx hk) (gsr_bounds h0 hm hx (by omega))).mono ?_
    rintro e W' ⟨rfl, h3, h4⟩
    have e2 : gsr m xs k + (xs k - f (k % m)) = gsr m xs (k + 1) := by rw [e1]; rfl
    rw [e2] at h3 ⊢
    refine ⟨by rw [gsr_eq m xs h0], ⟨_, h1.step h0, ?_⟩, h4⟩
    rw [Nat.mod_add_mod] at h3
    exact h3
  · rintro e w' ⟨v', rfl, h1, _, h3⟩
    exact ⟨v', rfl, h1, h3⟩

/-- A back. -/
abbrev Bk (b : Int) : Prop := 1 ≤ b ∧ b ≤ 512

theorem Il.at {w : World} {v : Value} {n : Nat} {xs : Nat → Int} (h : Il w v n xs) (hn : 0 < n) {b off n' c : Nat} (hv : v = .slice (some ⟨b, off, none⟩) n' c) : b < w.heap.size := by
  obtain ⟨ao, cap, rfl, _, hc⟩ := h
  obtain ⟨b', off', rfl, hlt, _⟩ := hc hn
  injection hv with h1
  injection h1 with h2
  injection h2 with h3
  omega

theorem sig_bnd {n : Nat} {xs : Nat → Int} (h : Sig n xs) : Bnd n xs := fun k hk => by have := h.2 k hk; omega

end Go.Proofs.Ytnhkiknmbjaafaa
