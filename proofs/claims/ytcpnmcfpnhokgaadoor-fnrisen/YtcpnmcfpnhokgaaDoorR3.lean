/- Rounding: how its end is told: too great, below normal, or normal. Nothing of the program stands here. -/
import Derived.Test.YtcpnmcfpnhokgaaDoorR0
namespace Go.Proofs.YtcpnmcfpnhokgaaDoor

/-- The ends of a rounding: U, the exponent of the last place; K, how many of it; n, the bits of K; z, what comes out. -/
def Ends (p t h U n z : Int) (K : Nat) : Prop :=
  (t < n + U - 1 ∧ (2 * t + 1) * h ≤ z) ∨
  (¬ t < n + U - 1 ∧ n + U - 1 < 1 - t ∧ ¬ (2 * t + 1) * h ≤ z ∧ z = K ∧ (K : Int) < h) ∨
  (¬ t < n + U - 1 ∧ ¬ n + U - 1 < 1 - t ∧ ¬ (2 * t + 1) * h ≤ z ∧ n = p ∧ z = (n + U - 1 + t) * h + K - h ∧ h ≤ K ∧ (K : Int) < 2 * h) ∨
  (¬ t < n + U - 1 ∧ ¬ n + U - 1 < 1 - t ∧ ¬ (2 * t + 1) * h ≤ z ∧ n = p + 1 ∧ z = (n + U - 1 + t) * h ∧ (K : Int) = 2 * h)

theorem ends_of {p t h e U : Int} {P N K : Nat} (hp : p = P + 1) (hh : h = ((2 ^ P : Nat) : Int)) (_ht : 1 ≤ t) (hN : 0 < N) (hU : U = uOf p t e N) (mode : Int) (neg more : Bool) (hK : K = kOf mode neg N (U - e) more)
    (lin : ∀ (s : Int) (k : Int), U = 2 - t - p + s → 0 ≤ s → 0 ≤ k → ∀ n : Int, ((s = 0 ∧ k < h ∧ n < p) ∨ (n = p ∧ h ≤ k ∧ k < 2 * h) ∨ (n = p + 1 ∧ k = 2 * h)) → K = k.toNat → Ends p t h U n ((U - (2 - t - p)) * h + k) K) :
    Ends p t h U (blen K) ((U - (2 - t - p)) * h + K) K := by
  obtain ⟨u1, u2, u3, u4⟩ := uOf_ge p t e N
  rw [← hU] at u1 u2 u3 u4
  obtain ⟨k1, k2⟩ := kOf_le mode neg N (U - e) more
  rw [← hK] at k1 k2
  refine lin (U - (2 - t - p)) K (by omega) (by omega) (by omega) (blen K) ?_ (by simp)
  have e2 : (2 : Nat) ^ (P + 1) = 2 * 2 ^ P := by rw [Nat.pow_succ]; omega
  by_cases hs : e + blen N - 1 < 1 - t
  · have := u3 hs
    have hm := mOf_lt (N := N) (d := U - e) (P := P) (by omega)
    by_cases hk : K < 2 ^ P
    · have := blen_le hk
      exact Or.inl ⟨by omega, by omega, by omega⟩
    · have := blen_at (N := K) (L := P) (by omega) (by omega)
      exact Or.inr (Or.inl ⟨by omega, by omega, by omega⟩)
  · have := u4 hs
    have hm := mOf_lt (N := N) (d := U - e) (P := P + 1) (by omega)
    have hg := mOf_ge (N := N) (d := U - e) (P := P) hN (by omega)
    by_cases hk : K < 2 ^ (P + 1)
    · have := blen_at (N := K) (L := P) (by omega) hk
      exact Or.inr (Or.inl ⟨by omega, by omega, by omega⟩)
    · have h3 : K = 2 ^ (P + 1) := by omega
      have := blen_at (N := K) (L := P + 1) (by omega) (by rw [h3, Nat.pow_succ 2 (P + 1)]; have := Nat.pow_pos (n := P + 1) (show 0 < 2 by decide); omega)
      exact Or.inr (Or.inr ⟨by omega, by omega⟩)

theorem ends_frm {f wd p t S D h q e U : Int} {N K : Nat} (hF : Frm f wd p t S D h q) (hN : 0 < N) (hU : U = uOf p t e N) (mode : Int) (neg more : Bool) (hK : K = kOf mode neg N (U - e) more) :
    Ends p t h U (blen K) ((U - (2 - t - p)) * h + K) K := by
  rcases hF with ⟨rfl, rfl, rfl, rfl, rfl, rfl, rfl, rfl⟩ | ⟨rfl, rfl, rfl, rfl, rfl, rfl, rfl, rfl⟩ | ⟨rfl, rfl, rfl, rfl, rfl, rfl, rfl, rfl⟩
  · refine ends_of (P := 10) (by decide) (by decide) (by decide) hN hU mode neg more hK ?_
    rintro s k rfl h0 h1 n h2 h3
    unfold Ends
    rcases h2 with ⟨rfl, _, _⟩ | ⟨rfl, _, _⟩ | ⟨rfl, rfl⟩ <;> omega
  · refine ends_of (P := 23) (by decide) (by decide) (by decide) hN hU mode neg more hK ?_
    rintro s k rfl h0 h1 n h2 h3
    unfold Ends
    rcases h2 with ⟨rfl, _, _⟩ | ⟨rfl, _, _⟩ | ⟨rfl, rfl⟩ <;> omega
  · refine ends_of (P := 52) (by decide) (by decide) (by decide) hN hU mode neg more hK ?_
    rintro s k rfl h0 h1 n h2 h3
    unfold Ends
    rcases h2 with ⟨rfl, _, _⟩ | ⟨rfl, _, _⟩ | ⟨rfl, rfl⟩ <;> omega
end Go.Proofs.YtcpnmcfpnhokgaaDoor
