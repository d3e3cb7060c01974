/- The model's whole numbers: words of 32 bits in a slice, the lowest first: what a slice holds. -/
import Derived.Test.YtmpbhmmhdllkhaaRows
import Derived.WalkKit
import Derived.WalkSpells
import Derived.WalkLawsBesides
import Derived.Deep.QuietTactic
import Derived.BigQuiet
namespace Go.Proofs.Ytmpbhmmhdllkhaa.Q
open Go.RowKit

/-- The k-th word of a number. -/
def wd (N k : Nat) : Nat := N / 4294967296 ^ k % 4294967296

theorem wd_lt (N k : Nat) : wd N k < 4294967296 := Nat.mod_lt _ (by decide)

/-- The first n words of a number, as cells. -/
def wds (n N : Nat) : List Value := (List.range n).map fun k => .int .u32 ((wd N k : Nat) : Int)

theorem wds_length (n N : Nat) : (wds n N).length = n := by simp [wds]

theorem wds_get {n N k : Nat} (h : k < n) : (wds n N)[k]? = some (.int .u32 ((wd N k : Nat) : Int)) := by simp [wds, h]

theorem wds_take {n N k : Nat} (h : k ≤ n) : (wds n N).take k = wds k N := by
  apply List.ext_getElem?
  intro i
  by_cases hi : i < k
  · rw [List.getElem?_take, if_pos hi, wds_get (by omega), wds_get hi]
  · rw [List.getElem?_take, if_neg hi, List.getElem?_eq_none (by rw [wds_length]; omega)]

theorem pow_pos' (k : Nat) : 0 < 4294967296 ^ k := Nat.pow_pos (by decide)

theorem pow_succ' (k : Nat) : 4294967296 ^ (k + 1) = 4294967296 ^ k * 4294967296 := Nat.pow_succ ..

theorem wd_add_lt {N x n k : Nat} (hk : k < n) : wd (N + x * 4294967296 ^ n) k = wd N k := by
  unfold wd
  obtain ⟨j, rfl⟩ : ∃ j, n = k + 1 + j := ⟨n - k - 1, by omega⟩
  have e : x * 4294967296 ^ (k + 1 + j) = 4294967296 ^ k * (4294967296 * (x * 4294967296 ^ j)) := by
    rw [Nat.pow_add, Nat.pow_succ]
    ac_rfl
  rw [e, Nat.add_mul_div_left _ _ (pow_pos' k), Nat.add_mul_mod_self_left]

theorem wd_add_at {N x n : Nat} (hN : N < 4294967296 ^ n) (hx : x < 4294967296) : wd (N + x * 4294967296 ^ n) n = x := by
  unfold wd
  rw [Nat.add_mul_div_right _ _ (pow_pos' n), Nat.div_eq_of_lt hN, Nat.zero_add, Nat.mod_eq_of_lt hx]

theorem wds_snoc {N x n : Nat} (hN : N < 4294967296 ^ n) (hx : x < 4294967296) : wds n N ++ [.int .u32 ((x : Nat) : Int)] = wds (n + 1) (N + x * 4294967296 ^ n) := by
  apply List.ext_getElem?
  intro i
  by_cases hi : i < n
  · rw [List.getElem?_append_left (by rw [wds_length]; exact hi), wds_get hi, wds_get (by omega), wd_add_lt hi]
  · by_cases hi2 : i = n
    · subst hi2
      rw [List.getElem?_append_right (by rw [wds_length]; omega), wds_get (by omega), wd_add_at hN hx, wds_length]
      simp
    · rw [List.getElem?_eq_none (by simp [wds_length]; omega), List.getElem?_eq_none (by rw [wds_length]; omega)]

theorem snoc_lt {N x n : Nat} (hN : N < 4294967296 ^ n) (hx : x < 4294967296) : N + x * 4294967296 ^ n < 4294967296 ^ (n + 1) := by
  have h1 : (x + 1) * 4294967296 ^ n ≤ 4294967296 * 4294967296 ^ n := Nat.mul_le_mul_right _ (by omega)
  have h2 : (x + 1) * 4294967296 ^ n = x * 4294967296 ^ n + 4294967296 ^ n := by rw [Nat.add_mul, Nat.one_mul]
  rw [Nat.pow_succ, Nat.mul_comm (4294967296 ^ n)]
  omega

/-- The slice holds the number in n words, in a row of its own from block number 'base' on. -/
def Hol (base : Nat) (w : World) (v : Value) (n N : Nat) : Prop := N < 4294967296 ^ n ∧ w.ownsRow base 48 1 v n (wds n N)

/-- The slice holds the number in at most m words, the last of which is not 0. -/
def Nt (w : World) (v : Value) (m N : Nat) : Prop := ∃ n, n ≤ m ∧ Hol 0 w v n N ∧ (n = 0 ∨ 4294967296 ^ (n - 1) ≤ N)

theorem Hol.shape {base : Nat} {w : World} {v : Value} {n N : Nat} (h : Hol base w v n N) :
    ∃ ao cap, v = .slice ao n cap ∧ n ≤ cap ∧ ∀ k, k < n → ∃ g, ao = some ⟨g, 0, none⟩ ∧ base ≤ g ∧ g < w.heap.size ∧ w.cell? ⟨g, k, none⟩ = some (.int .u32 ((wd N k : Nat) : Int)) := by
  have hh := h.2
  rcases h.2.2 with ⟨rfl, rfl⟩ | ⟨g, cap, cur, rfl, hb, hg, hn, hm, hs, ht⟩
  · exact ⟨none, 0, rfl, Nat.le_refl _, fun k hk => absurd hk (by omega)⟩
  · refine ⟨_, cap, rfl, hn, fun k hk => ⟨g, rfl, hb, (Array.getElem?_eq_some_iff.1 hg).1, ?_⟩⟩
    have := hh.cells rfl k _ (wds_get hk)
    have hadd : (⟨g, 0, none⟩ : Addr).add k = ⟨g, k, none⟩ := by unfold Addr.add; split <;> simp_all
    rwa [hadd] at this

theorem Hol.below {base : Nat} {w w' : World} {v : Value} {n N : Nat} (h : Hol base w v n N) (hb : Below w.heap.size w w') : Hol base w' v n N := by
  refine ⟨h.1, h.2.1, ?_⟩
  rcases h.2.2 with h2 | ⟨g, cap, cur, hv, hbg, hg, r⟩
  · exact Or.inl h2
  · exact Or.inr ⟨g, cap, cur, hv, hbg, by rw [hb.block g (Array.getElem?_eq_some_iff.1 hg).1]; exact hg, r⟩

theorem Hol.zero {base : Nat} {w : World} {v : Value} {n N : Nat} (h : Hol base w v n N) : Hol 0 w v n N := by
  refine ⟨h.1, h.2.1, ?_⟩
  rcases h.2.2 with h2 | ⟨g, cap, cur, hv, hbg, hg, r⟩
  · exact Or.inl h2
  · exact Or.inr ⟨g, cap, cur, hv, Nat.zero_le _, hg, r⟩

theorem Nt.below {w w' : World} {v : Value} {m N : Nat} (h : Nt w v m N) (hb : Below w.heap.size w w') : Nt w' v m N := by
  obtain ⟨n, hn, hh, ht⟩ := h
  exact ⟨n, hn, hh.below hb, ht⟩

/-- A beginning of the words, where the rest is 0. -/
theorem Hol.cut {base : Nat} {w : World} {ao : Option Addr} {n cap k N : Nat} (h : Hol base w (.slice ao n cap) n N) (hk : k ≤ n) (hN : N < 4294967296 ^ k) (hk0 : ao = none → k = 0) : Hol base w (.slice ao k cap) k N := by
  refine ⟨hN, by rw [wds_length]; omega, ?_⟩
  rcases h.2.2 with ⟨h2, rfl⟩ | ⟨g, cap', cur, hv, hbg, hg, hn, hm, hs, ht⟩
  · left
    obtain rfl : k = 0 := by omega
    cases h2
    exact ⟨rfl, rfl⟩
  · right
    cases hv
    refine ⟨g, cap, cur, rfl, hbg, hg, by omega, hm, hs, ?_⟩
    rw [← wds_take hk, ← ht, List.take_take]
    congr 1
    omega

/-- How long a slice is: a loop's measure. -/
def lenOf : Value → Nat | .slice _ k _ => k | _ => 0

theorem wd_top {N j : Nat} (h : N < 4294967296 ^ (j + 1)) : wd N j = N / 4294967296 ^ j := by
  unfold wd
  apply Nat.mod_eq_of_lt
  rw [Nat.div_lt_iff_lt_mul (pow_pos' j), Nat.mul_comm, ← Nat.pow_succ]
  exact h

theorem top_zero {N j : Nat} (h : N < 4294967296 ^ (j + 1)) (h0 : wd N j = 0) : N < 4294967296 ^ j := by
  rw [wd_top h] at h0
  exact (Nat.div_eq_zero_iff_lt (pow_pos' j)).1 h0

theorem top_pos {N j : Nat} (h : N < 4294967296 ^ (j + 1)) (h0 : ¬ wd N j = 0) : 4294967296 ^ j ≤ N := by
  rw [wd_top h] at h0
  exact Nat.not_lt.1 fun hl => h0 ((Nat.div_eq_zero_iff_lt (pow_pos' j)).2 hl)

set_option maxHeartbeats 400000 in
theorem trim_any {w : World} {v : Value} {n N : Nat} (h : Hol 0 w v n N) (hn : n ≤ 1000000) :
    Calls Try.prog 22 #[v] w fun e w' => w' = w ∧ ∃ v', e = .returned v' ∧ Nt w v' n N := by
  obtain ⟨ao, cap, rfl, hcap, hcell⟩ := h.shape
  have HH : Hid (Hol 0 w (.slice ao n cap) n N) := h
  have HC : Hid (∀ k, k < n → ∃ g, ao = some ⟨g, 0, none⟩ ∧ 0 ≤ g ∧ g < w.heap.size ∧ w.cell? ⟨g, k, none⟩ = some (.int .u32 ((wd N k : Nat) : Int))) := hcell
  have HN : Hid (N < 4294967296 ^ n) := h.1
  clear h hcell
  go_enter Try.func22, Try.ntmps22
  go_wp2
  go_loopw [0] (fun v wr => ∃ k : Nat, k ≤ n ∧ v = .slice ao k cap ∧ Hid (N < 4294967296 ^ k) ∧ wr = w) (fun v _ => lenOf v)
  case atStart => exact ⟨n, Nat.le_refl _, rfl, HN, rfl⟩
  case round =>
    obtain ⟨k, hk, rfl, hNk, rfl⟩ := hrel
    cases k with
    | zero =>
      go_wp2
      go_ret
      refine ⟨rfl, _, rfl, 0, Nat.zero_le _, HH.out.cut (Nat.zero_le _) hNk.out (fun _ => rfl), Or.inl rfl⟩
    | succ j =>
      obtain ⟨g, rfl, _, hg, hc⟩ := HC.out j (by omega)
      clear HC
      by_cases h0 : wd N j = 0
      · have hz : Hid (N < 4294967296 ^ j) := top_zero hNk.out h0
        rw [h0] at hc
        go_wp2
        go_roundw
        case rel => exact ⟨j, by omega, rfl, hz, trivial⟩
        case measure => simp [lenOf]
      · have hz : Hid (4294967296 ^ j ≤ N) := top_pos hNk.out h0
        have h1 : ¬ ((wd N j : Nat) : Int) = 0 := by omega
        go_wp2
        go_ret
        refine ⟨rfl, _, rfl, j + 1, hk, HH.out.cut hk hNk.out (fun h => by cases h), Or.inr hz.out⟩
end Go.Proofs.Ytmpbhmmhdllkhaa.Q
