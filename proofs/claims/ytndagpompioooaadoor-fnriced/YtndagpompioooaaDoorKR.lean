/- Numbers come back from their bits, in plain numbers. -/
import Derived.Test.YtndagpompioooaaDoorRD
import Derived.Test.YtndagpompioooaaDoorRB
import Derived.Test.YtndagpompioooaaDoorUA
namespace Go.Proofs.YtndagpompioooaaDoor
open Go.RowKit

theorem ric_mem9 {k : Nat} {xs : Nat → Int} (i : Nat) : ∀ x ∈ ric k xs i, Bit x := by
  induction i with
  | zero => intro x hx; cases hx
  | succ i ih =>
    intro x hx
    have hx2 : x ∈ ((ric k xs i ++ List.replicate (zig (xs i) / 2 ^ k) 1) ++ [0]) ++ low (zig (xs i)) k k := hx
    rcases List.mem_append.1 hx2 with h | h
    · rcases List.mem_append.1 h with h | h
      · rcases List.mem_append.1 h with h | h
        · exact ih x h
        · exact .inr (List.eq_of_mem_replicate h)
      · exact .inl (List.mem_singleton.1 h)
    · unfold low at h
      obtain ⟨j, _, rfl⟩ := List.mem_map.1 h
      show _ = _ ∨ _ = _
      omega

theorem ric_more (k : Nat) (xs : Nat → Int) (j d : Nat) : ∃ S, ric k xs (j + d) = ric k xs j ++ S := by
  induction d with
  | zero => exact ⟨[], (List.append_nil _).symm⟩
  | succ d ih =>
    obtain ⟨S, hS⟩ := ih
    refine ⟨((S ++ List.replicate (zig (xs (j + d)) / 2 ^ k) 1) ++ [0]) ++ low (zig (xs (j + d))) k k, ?_⟩
    show ((ric k xs (j + d) ++ List.replicate (zig (xs (j + d)) / 2 ^ k) 1) ++ [0]) ++ low (zig (xs (j + d))) k k = _
    rw [hS, List.append_assoc, List.append_assoc, List.append_assoc, List.append_assoc, List.append_assoc]

/-- Where the bits of the number j stand. -/
theorem ric_at {k n j : Nat} {xs : Nat → Int} (T : List Int) (hj : j < n) {i : Nat} (hi : i < zig (xs j) / 2 ^ k + 1 + k) :
    lf (ric k xs n ++ T) (rbt k xs j + i) = lf ((List.replicate (zig (xs j) / 2 ^ k) 1 ++ [0]) ++ low (zig (xs j)) k k) i := by
  obtain ⟨S, hS⟩ := ric_more k xs (j + 1) (n - (j + 1))
  rw [show j + 1 + (n - (j + 1)) = n by omega] at hS
  have e : ric k xs n ++ T = ric k xs j ++ (((List.replicate (zig (xs j) / 2 ^ k) 1 ++ [0]) ++ low (zig (xs j)) k k) ++ (S ++ T)) := by
    rw [hS]
    show (((ric k xs j ++ List.replicate (zig (xs j) / 2 ^ k) 1) ++ [0]) ++ low (zig (xs j)) k k) ++ S ++ T = _
    simp only [List.append_assoc]
  have hl : ((List.replicate (zig (xs j) / 2 ^ k) (1 : Int) ++ [0]) ++ low (zig (xs j)) k k).length = zig (xs j) / 2 ^ k + 1 + k := by
    rw [List.length_append, List.length_append, List.length_replicate, List.length_singleton, low_len]
  rw [e, lf_right (by rw [ric_len]; omega), ric_len, show rbt k xs j + i - rbt k xs j = i by omega, lf_left (by rw [hl]; exact hi)]

theorem word_one {q u k i : Nat} (h : i < q) : lf ((List.replicate q (1 : Int) ++ [0]) ++ low u k k) i = 1 := by
  rw [lf_left (by rw [List.length_append, List.length_replicate]; omega), lf_left (by rw [List.length_replicate]; exact h)]
  unfold lf
  rw [List.getD_eq_getElem?_getD, List.getElem?_replicate, if_pos h]
  rfl
theorem word_nought {q u k : Nat} : lf ((List.replicate q (1 : Int) ++ [0]) ++ low u k k) q = 0 := by
  rw [lf_left (by rw [List.length_append, List.length_replicate, List.length_singleton]; omega), lf_right (by rw [List.length_replicate]; exact Nat.le_refl _), List.length_replicate, Nat.sub_self]
  rfl
theorem word_low {q u k i : Nat} (h : i < k) : lf ((List.replicate q (1 : Int) ++ [0]) ++ low u k k) (q + 1 + i) = (((u / 2 ^ (k - 1 - i)) % 2 : Nat) : Int) := by
  rw [lf_right (by rw [List.length_append, List.length_replicate, List.length_singleton]; omega), List.length_append, List.length_replicate, List.length_singleton, show q + 1 + i - (q + 1) = i by omega]
  unfold lf low
  rw [List.getD_eq_getElem?_getD, List.getElem?_map, List.getElem?_range h]
  rfl

theorem bv_low {b : Nat → Int} {f u k : Nat} (c : Nat) (hc : c ≤ k) (h : ∀ i, i < c → b (f + i) = (((u / 2 ^ (k - 1 - i)) % 2 : Nat) : Int)) : bv b f c = (u / 2 ^ (k - c)) % 2 ^ c := by
  induction c with
  | zero => rw [Nat.pow_zero, Nat.mod_one]; rfl
  | succ c ih =>
    rw [bv, ih (by omega) (fun i hi => h i (by omega)), h c (by omega), Int.toNat_natCast, show k - 1 - c = k - (c + 1) by omega]
    have e2 : 2 ^ (k - c) = 2 ^ (k - (c + 1)) * 2 := by rw [show k - c = k - (c + 1) + 1 by omega, Nat.pow_succ]
    have e : u / 2 ^ (k - c) = u / 2 ^ (k - (c + 1)) / 2 := by rw [Nat.div_div_eq_div_mul, e2]
    rw [e]
    generalize u / 2 ^ (k - (c + 1)) = v
    rw [Nat.pow_succ, Nat.mul_comm (2 ^ c) 2, Nat.mod_mul]
    omega

theorem unf_zig (x : Int) : unf (zig x) = x := by
  unfold unf
  by_cases h : x < 0
  · have := zig_neg h
    rw [if_pos (by omega)]
    omega
  · have := zig_pos h
    rw [if_neg (by omega)]
    omega

/-- The numbers come back from their bits, whatever stands behind these. -/
theorem ric_back {k n : Nat} {xs : Nat → Int} (T : List Int) (hk : k ≤ 30) (h : Wth 1000000000 n xs) (j : Nat) (hj : j ≤ n) :
    rdn (lf (ric k xs n ++ T)) (rbt k xs n + T.length) k j = some ((List.range j).map xs, rbt k xs j) := by
  induction j with
  | zero => rfl
  | succ j ih =>
    have hu := zig_le (h j (by omega))
    have hm := rbt_mono k xs (show j + 1 ≤ n from hj)
    have hs : rbt k xs (j + 1) = rbt k xs j + (zig (xs j) / 2 ^ k + 1 + k) := rfl
    have one : ∀ i, i < zig (xs j) / 2 ^ k → lf (ric k xs n ++ T) (rbt k xs j + i) = 1 := fun i hi => by rw [ric_at T (by omega) (by omega)]; exact word_one hi
    have zer : lf (ric k xs n ++ T) (rbt k xs j + zig (xs j) / 2 ^ k) = 0 := by rw [ric_at T (by omega) (by omega)]; exact word_nought
    have lo : ∀ i, i < k → lf (ric k xs n ++ T) (rbt k xs j + zig (xs j) / 2 ^ k + 1 + i) = (((zig (xs j) / 2 ^ (k - 1 - i)) % 2 : Nat) : Int) := fun i hi => by
      rw [show rbt k xs j + zig (xs j) / 2 ^ k + 1 + i = rbt k xs j + (zig (xs j) / 2 ^ k + 1 + i) by omega, ric_at T (by omega) (by omega)]
      exact word_low hi
    have hr := run1_eq (b := lf (ric k xs n ++ T)) (n := rbt k xs n + T.length) (a := rbt k xs j) (q := zig (xs j) / 2 ^ k) (by omega) one (.inr (by rw [zer]; decide))
    have hv := bv_low (b := lf (ric k xs n ++ T)) (f := rbt k xs j + zig (xs j) / 2 ^ k + 1) k (Nat.le_refl _) lo
    rw [Nat.sub_self, Nat.pow_zero, Nat.div_one] at hv
    have hd : zig (xs j) / 2 ^ k * 2 ^ k + zig (xs j) % 2 ^ k = zig (xs j) := by rw [Nat.mul_comm]; exact Nat.div_add_mod _ _
    have h1 := rd1_yes (k := k) hr (by omega) zer (by omega) (by omega) (fun i hi => by rw [lo i hi]; show _ = _ ∨ _ = _; omega) (by rw [hv, hd]; exact hu)
    rw [hv, hd] at h1
    have h2 := rdn_next (ih (by omega)) h1
    rw [h2, unf_zig, List.range_succ, List.map_append, hs]
    congr 2
    omega

theorem ric_all {k n : Nat} {xs : Nat → Int} {T : List Int} (hT : ∀ x ∈ T, Bit x) {N : Nat} (hN : N = rbt k xs n + T.length) : ∀ i, i < N → Bit (lf (ric k xs n ++ T) i) := by
  intro i hi
  have hl : (ric k xs n ++ T).length = N := by rw [List.length_append, ric_len, hN]
  have hm : lf (ric k xs n ++ T) i ∈ ric k xs n ++ T := by
    unfold lf
    rw [List.getD_eq_getElem?_getD, List.getElem?_eq_getElem (by omega)]
    exact List.getElem_mem _
  rcases List.mem_append.1 hm with h | h
  · exact ric_mem9 n _ h
  · exact hT _ h

/-- No k has fewer bits than the best. -/
theorem bst_least {n : Nat} {xs : Nat → Int} (K : Nat) : ∀ k, k < K → rbt k xs n ≤ 100000 → 0 ≤ (bst n xs K).1 ∧ (bst n xs K).2 ≤ rbt k xs n := by
  induction K with
  | zero => intro k hk; omega
  | succ K ih =>
    intro k hk hb
    by_cases hy : rbt K xs n ≤ 100000 ∧ ((bst n xs K).1 < 0 ∨ rbt K xs n < (bst n xs K).2)
    · rw [bst_yes hy.1 hy.2]
      refine ⟨by show 0 ≤ (K : Int); omega, ?_⟩
      show rbt K xs n ≤ rbt k xs n
      by_cases e : k = K
      · rw [e]; exact Nat.le_refl _
      · have h1 := ih k (by omega) hb
        rcases hy.2 with h2 | h2
        · omega
        · omega
    · rw [bst_no hy]
      by_cases e : k = K
      · subst e
        have h3 : ¬ ((bst n xs k).1 < 0 ∨ rbt k xs n < (bst n xs k).2) := fun h4 => hy ⟨hb, h4⟩
        exact ⟨by omega, by omega⟩
      · exact ih k (by omega) hb

theorem brv_least {n k : Nat} {xs : Nat → Int} (hr : Rc n xs) (hk : k ≤ 30) (hb : rbt k xs n ≤ 100000) : (brv n xs).2 ≤ rbt k xs n := by
  unfold brv
  rw [if_pos hr]
  exact (bst_least 31 k (by omega) hb).2
end Go.Proofs.YtndagpompioooaaDoor
