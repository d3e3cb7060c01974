/- The model's whole numbers: products. -/
import Derived.Test.YtacenbapmelncaaDoorQS4

namespace Go.Proofs.YtacenbapmelncaaDoor.Q
open Go.RowKit

/-- A number with another word at the place p. -/
def putW (N p y : Nat) : Nat := N % 4294967296 ^ p + (y + N / 4294967296 ^ (p + 1) * 4294967296) * 4294967296 ^ p

theorem split_at (N p : Nat) : N = N % 4294967296 ^ p + (wd N p + N / 4294967296 ^ (p + 1) * 4294967296) * 4294967296 ^ p := by
  have h1 := Nat.mod_add_div N (4294967296 ^ p)
  have h2 := wd_eq (A := N) (k := p)
  rw [show wd N p + N / 4294967296 ^ (p + 1) * 4294967296 = N / 4294967296 ^ p by omega, Nat.mul_comm (N / 4294967296 ^ p)]
  omega

theorem put_eq (N p y : Nat) : putW N p y + wd N p * 4294967296 ^ p = N + y * 4294967296 ^ p := by
  have h := split_at N p
  unfold putW
  rw [Nat.add_mul] at h ⊢
  omega

theorem put_at {N p y : Nat} (hy : y < 4294967296) : wd (putW N p y) p = y := by
  have hp := pow_pos' p
  show putW N p y / 4294967296 ^ p % 4294967296 = y
  unfold putW
  rw [Nat.add_mul_div_right _ _ hp, Nat.div_eq_of_lt (Nat.mod_lt _ hp)]
  omega

theorem put_low {N p y j : Nat} (hj : j < p) : wd (putW N p y) j = wd N j := by
  unfold putW
  rw [wd_add_lt hj]
  conv => rhs; rw [split_at N p]
  rw [wd_add_lt hj]

theorem put_high {N p y j : Nat} (hy : y < 4294967296) (hj : p < j) : wd (putW N p y) j = wd N j := by
  obtain ⟨i, rfl⟩ : ∃ i, j = p + 1 + i := ⟨j - p - 1, by omega⟩
  have hp := pow_pos' p
  have key : putW N p y / 4294967296 ^ (p + 1) = N / 4294967296 ^ (p + 1) := by
    unfold putW
    rw [Nat.pow_succ, ← Nat.div_div_eq_div_mul, Nat.add_mul_div_right _ _ hp, Nat.div_eq_of_lt (Nat.mod_lt _ hp)]
    omega
  show putW N p y / 4294967296 ^ (p + 1 + i) % _ = N / 4294967296 ^ (p + 1 + i) % _
  rw [Nat.pow_add, ← Nat.div_div_eq_div_mul, key, Nat.div_div_eq_div_mul]

theorem put_lt {N p y n : Nat} (hy : y < 4294967296) (hN : N < 4294967296 ^ n) (hp : p < n) : putW N p y < 4294967296 ^ n := by
  obtain ⟨m, rfl⟩ : ∃ m, n = p + 1 + m := ⟨n - p - 1, by omega⟩
  have hq : N / 4294967296 ^ (p + 1) < 4294967296 ^ m := by
    rw [Nat.div_lt_iff_lt_mul (pow_pos' _), ← Nat.pow_add, Nat.add_comm]
    exact hN
  unfold putW
  have h1 := Nat.mod_lt N (pow_pos' p)
  have h2 : (y + N / 4294967296 ^ (p + 1) * 4294967296 + 1) * 4294967296 ^ p ≤ 4294967296 * 4294967296 ^ m * 4294967296 ^ p := Nat.mul_le_mul_right _ (by omega)
  have e : 4294967296 ^ (p + 1 + m) = 4294967296 * 4294967296 ^ m * 4294967296 ^ p := by
    rw [Nat.pow_add, Nat.pow_succ]
    ac_rfl
  rw [e]
  rw [Nat.add_mul, Nat.one_mul] at h2
  omega

/-- One word of a row of the call's own is written. -/
theorem Hol.set {base : Nat} {w : World} {g n cap N : Nat} (h : Hol base w (.slice (some ⟨g, 0, none⟩) n cap) n N) (k : Nat) (hk : k < n) (x N' : Nat) (hN' : N' < 4294967296 ^ n) (ho : ∀ j, j < n → j ≠ k → wd N' j = wd N j) (hx : wd N' k = x) :
    Hol base (w.setCell ⟨g, k, none⟩ (.int .u32 (x : Int))) (.slice (some ⟨g, 0, none⟩) n cap) n N' := by
  refine ⟨hN', by rw [wds_length]; omega, ?_⟩
  rcases h.2.2 with ⟨h2, _⟩ | ⟨g', cap', cur, hv, hbg, hg, hn, hm, hs, ht⟩
  · cases h2
  · right
    cases hv
    have hlt := lt_of_block hg
    have h' : w.heap[g] = .cells cur 35 (0, 0) := by simpa [Array.getElem?_eq_getElem hlt] using hg
    refine ⟨g, cap, cur.setIfInBounds k (.int .u32 (x : Int)), rfl, hbg, ?_, hn, hm, by simpa using hs, ?_⟩
    · show (w.heap.modify g _)[g]? = _
      rw [Array.getElem?_eq_getElem (by simpa using hlt), Array.getElem_modify_self, h']
      rfl
    · apply List.ext_getElem?
      intro i
      have hti := congrArg (·[i]?) ht
      simp only [Nat.mul_one] at hti hs ⊢
      by_cases hi : i < n
      · rw [wds_get hi]
        rw [wds_get hi, List.getElem?_take, if_pos hi] at hti
        rw [List.getElem?_take, if_pos hi, Array.toList_setIfInBounds, List.getElem?_set]
        by_cases hik : k = i
        · subst hik
          rw [if_pos rfl, if_pos (by simp; omega), hx]
        · rw [if_neg hik, hti, ho i hi (fun e => hik e.symm)]
      · rw [List.getElem?_eq_none (by simp; omega), List.getElem?_eq_none (by rw [wds_length]; omega)]


theorem Hol.put {base : Nat} {w : World} {g n cap N : Nat} (h : Hol base w (.slice (some ⟨g, 0, none⟩) n cap) n N) (p : Nat) (hp : p < n) (y : Nat) (hy : y < 4294967296) :
    Hol base (w.setCell ⟨g, p, none⟩ (.int .u32 (y : Int))) (.slice (some ⟨g, 0, none⟩) n cap) n (putW N p y) :=
  h.set p hp y _ (put_lt hy h.1 hp) (fun j _ hj => by rcases Nat.lt_or_gt_of_ne hj with h | h; exact put_low h; exact put_high hy h) (put_at hy)

/-- One word more of a row: what stands, what is carried. -/
theorem mul_step {R S C a b o x P : Nat} (h : S + C * P = R) (hx : x = a * b + o + C) (S' : Nat) (hS : S' + o * P = S + x % 4294967296 * P) : S' + x / 4294967296 * (P * 4294967296) = R + a * b * P := by
  have e : x % 4294967296 * P + x / 4294967296 * (P * 4294967296) = x * P := by
    rw [show x / 4294967296 * (P * 4294967296) = (4294967296 * (x / 4294967296)) * P by ac_rfl, ← Nat.add_mul, Nat.mod_add_div]
  have e2 : x * P = a * b * P + o * P + C * P := by rw [hx, Nat.add_mul, Nat.add_mul]
  omega

theorem mul_small {a b o C : Nat} (ha : a < 4294967296) (hb : b < 4294967296) (ho : o < 4294967296) (hC : C < 4294967296) : a * b + o + C < 18446744073709551616 ∧ (a * b + o + C) / 4294967296 < 4294967296 ∧ a * b < 18446744073709551616 := by
  have : a * b ≤ 4294967295 * 4294967295 := Nat.mul_le_mul (by omega) (by omega)
  omega
theorem Hol.cell {base : Nat} {w : World} {g n cap N : Nat} (h : Hol base w (.slice (some ⟨g, 0, none⟩) n cap) n N) (k : Nat) (hk : k < n) : w.cell? ⟨g, k, none⟩ = some (.int .u32 ((wd N k : Nat) : Int)) := by
  obtain ⟨ao, cap', e, _, hc⟩ := h.shape
  obtain ⟨g', rfl, _, _, hc⟩ := hc k hk
  cases e
  exact hc

theorem hol_made {w w' : World} {L : Nat} (h : w'.ownsRow w.heap.size 35 1 (.slice (some ⟨w.heap.size, 0, none⟩) L L) L (madeCells (Value.int .u32 0).cells (L * 1)).toList) : Hol w.heap.size w' (.slice (some ⟨w.heap.size, 0, none⟩) L L) L 0 := by
  refine ⟨pow_pos' _, ?_⟩
  have e : (madeCells (Value.int .u32 0).cells (L * 1)).toList = wds L 0 := by
    rw [show (Value.int .u32 0).cells = #[Value.int .u32 0] from rfl, toList_madeCells_one]
    apply List.ext_getElem?
    intro i
    by_cases hi : i < L
    · rw [wds_get hi]
      simp [hi, wd]
    · rw [List.getElem?_eq_none (by simp; omega), List.getElem?_eq_none (by rw [wds_length]; omega)]
  rwa [e] at h

theorem Hol.free {base : Nat} {w : World} {g n cap N : Nat} (h : Hol base w (.slice (some ⟨g, 0, none⟩) n cap) n N) (k : Nat) : w.frozen? ⟨g, k, none⟩ = false := by
  rcases h.2.2 with ⟨h2, _⟩ | ⟨g', cap', cur, hv, hbg, hg, hn, hm, hs, ht⟩
  · cases h2
  · cases hv
    simp [World.frozen?, hg]


theorem Nt.mono {w : World} {v : Value} {m k N : Nat} (h : Nt w v m N) (hk : m ≤ k) : Nt w v k N := by
  obtain ⟨n, hn, r⟩ := h
  exact ⟨n, by omega, r⟩
end Go.Proofs.YtacenbapmelncaaDoor.Q
