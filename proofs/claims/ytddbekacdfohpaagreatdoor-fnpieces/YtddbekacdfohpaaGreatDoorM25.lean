/- QS1 QS2. -/
import Derived.Test.YtddbekacdfohpaaGreatDoorRows
import Derived.WalkKit
import Derived.WalkSpells
import Derived.WalkLawsBesides
import Derived.Deep.QuietTactic
import Derived.BigQuiet
import Derived.Test.YtddbekacdfohpaaGreatDoorM15
namespace Go.Proofs.YtddbekacdfohpaaGreatDoor.Q
open Go.RowKit

/-- The k-th word of a number. -/
def wd (N k : Nat) : Nat := N / 4294967296 ^ k % 4294967296

theorem wd_lt (N k : Nat) : wd N k < 4294967296 := Nat.mod_lt _ (by decide)

/-- The first n words of a number, as cells. -/
def wds (n N : Nat) : List Value := (List.range n).map fun k => .int .u32 ((wd N k : Nat) : Int)

theorem wds_length (n N : Nat) : (wds n N).length = n := by simp [wds]

theorem wds_get {n N k : Nat} (h : k < n) : (wds n N)[k]? = some (.int .u32 ((wd N k : Nat) : Int)) := by simp [wds, h]

theorem wds_take {n N k : Nat} (h : k ≤ n) : (wds n N).take k = wds k N := by
  apply List.ext_getElem?
  intro i
  by_cases hi : i < k
  · rw [List.getElem?_take, if_pos hi, wds_get (by omega), wds_get hi]
  · rw [List.getElem?_take, if_neg hi, List.getElem?_eq_none (by rw [wds_length]; omega)]

theorem pow_pos' (k : Nat) : 0 < 4294967296 ^ k := Nat.pow_pos (by decide)

theorem pow_succ' (k : Nat) : 4294967296 ^ (k + 1) = 4294967296 ^ k * 4294967296 := Nat.pow_succ ..

theorem wd_add_lt {N x n k : Nat} (hk : k < n) : wd (N + x * 4294967296 ^ n) k = wd N k := by
  unfold wd
  obtain ⟨j, rfl⟩ : ∃ j, n = k + 1 + j := ⟨n - k - 1, by omega⟩
  have e : x * 4294967296 ^ (k + 1 + j) = 4294967296 ^ k * (4294967296 * (x * 4294967296 ^ j)) := by
    rw [Nat.pow_add, Nat.pow_succ]
    ac_rfl
  rw [e, Nat.add_mul_div_left _ _ (pow_pos' k), Nat.add_mul_mod_self_left]

theorem wd_add_at {N x n : Nat} (hN : N < 4294967296 ^ n) (hx : x < 4294967296) : wd (N + x * 4294967296 ^ n) n = x := by
  unfold wd
  rw [Nat.add_mul_div_right _ _ (pow_pos' n), Nat.div_eq_of_lt hN, Nat.zero_add, Nat.mod_eq_of_lt hx]

theorem wds_snoc {N x n : Nat} (hN : N < 4294967296 ^ n) (hx : x < 4294967296) : wds n N ++ [.int .u32 ((x : Nat) : Int)] = wds (n + 1) (N + x * 4294967296 ^ n) := by
  apply List.ext_getElem?
  intro i
  by_cases hi : i < n
  · rw [List.getElem?_append_left (by rw [wds_length]; exact hi), wds_get hi, wds_get (by omega), wd_add_lt hi]
  · by_cases hi2 : i = n
    · subst hi2
      rw [List.getElem?_append_right (by rw [wds_length]; omega), wds_get (by omega), wd_add_at hN hx, wds_length]
      simp
    · rw [List.getElem?_eq_none (by simp [wds_length]; omega), List.getElem?_eq_none (by rw [wds_length]; omega)]

theorem snoc_lt {N x n : Nat} (hN : N < 4294967296 ^ n) (hx : x < 4294967296) : N + x * 4294967296 ^ n < 4294967296 ^ (n + 1) := by
  have h1 : (x + 1) * 4294967296 ^ n ≤ 4294967296 * 4294967296 ^ n := Nat.mul_le_mul_right _ (by omega)
  have h2 : (x + 1) * 4294967296 ^ n = x * 4294967296 ^ n + 4294967296 ^ n := by rw [Nat.add_mul, Nat.one_mul]
  rw [Nat.pow_succ, Nat.mul_comm (4294967296 ^ n)]
  omega

/-- The slice holds the number in n words, in a row of its own from block number 'base' on. -/
def Hol (base : Nat) (w : World) (v : Value) (n N : Nat) : Prop := N < 4294967296 ^ n ∧ w.ownsRow base 70 1 v n (wds n N)

/-- The slice holds the number in at most m words, the last of which is not 0. -/
def Nt (w : World) (v : Value) (m N : Nat) : Prop := ∃ n, n ≤ m ∧ Hol 0 w v n N ∧ (n = 0 ∨ 4294967296 ^ (n - 1) ≤ N)

theorem Hol.shape {base : Nat} {w : World} {v : Value} {n N : Nat} (h : Hol base w v n N) :
    ∃ ao cap, v = .slice ao n cap ∧ n ≤ cap ∧ ∀ k, k < n → ∃ g, ao = some ⟨g, 0, none⟩ ∧ base ≤ g ∧ g < w.heap.size ∧ w.cell? ⟨g, k, none⟩ = some (.int .u32 ((wd N k : Nat) : Int)) := by
  have hh := h.2
  rcases h.2.2 with ⟨rfl, rfl⟩ | ⟨g, cap, cur, rfl, hb, hg, hn, hm, hs, ht⟩
  · exact ⟨none, 0, rfl, Nat.le_refl _, fun k hk => absurd hk (by omega)⟩
  · refine ⟨_, cap, rfl, hn, fun k hk => ⟨g, rfl, hb, (Array.getElem?_eq_some_iff.1 hg).1, ?_⟩⟩
    have := hh.cells rfl k _ (wds_get hk)
    have hadd : (⟨g, 0, none⟩ : Addr).add k = ⟨g, k, none⟩ := by unfold Addr.add; split <;> simp_all
    rwa [hadd] at this

theorem Hol.below {base : Nat} {w w' : World} {v : Value} {n N : Nat} (h : Hol base w v n N) (hb : Below w.heap.size w w') : Hol base w' v n N := by
  refine ⟨h.1, h.2.1, ?_⟩
  rcases h.2.2 with h2 | ⟨g, cap, cur, hv, hbg, hg, r⟩
  · exact Or.inl h2
  · exact Or.inr ⟨g, cap, cur, hv, hbg, by rw [hb.block g (Array.getElem?_eq_some_iff.1 hg).1]; exact hg, r⟩

theorem Hol.zero {base : Nat} {w : World} {v : Value} {n N : Nat} (h : Hol base w v n N) : Hol 0 w v n N := by
  refine ⟨h.1, h.2.1, ?_⟩
  rcases h.2.2 with h2 | ⟨g, cap, cur, hv, hbg, hg, r⟩
  · exact Or.inl h2
  · exact Or.inr ⟨g, cap, cur, hv, Nat.zero_le _, hg, r⟩

theorem Nt.below {w w' : World} {v : Value} {m N : Nat} (h : Nt w v m N) (hb : Below w.heap.size w w') : Nt w' v m N := by
  obtain ⟨n, hn, hh, ht⟩ := h
  exact ⟨n, hn, hh.below hb, ht⟩

/-- A beginning of the words, where the rest is 0. -/
theorem Hol.cut {base : Nat} {w : World} {ao : Option Addr} {n cap k N : Nat} (h : Hol base w (.slice ao n cap) n N) (hk : k ≤ n) (hN : N < 4294967296 ^ k) (hk0 : ao = none → k = 0) : Hol base w (.slice ao k cap) k N := by
  refine ⟨hN, by rw [wds_length]; omega, ?_⟩
  rcases h.2.2 with ⟨h2, rfl⟩ | ⟨g, cap', cur, hv, hbg, hg, hn, hm, hs, ht⟩
  · left
    obtain rfl : k = 0 := by omega
    cases h2
    exact ⟨rfl, rfl⟩
  · right
    cases hv
    refine ⟨g, cap, cur, rfl, hbg, hg, by omega, hm, hs, ?_⟩
    rw [← wds_take hk, ← ht, List.take_take]
    congr 1
    omega

/-- How long a slice is: a loop's measure. -/
def lenOf : Value → Nat | .slice _ k _ => k | _ => 0

theorem wd_top {N j : Nat} (h : N < 4294967296 ^ (j + 1)) : wd N j = N / 4294967296 ^ j := by
  unfold wd
  apply Nat.mod_eq_of_lt
  rw [Nat.div_lt_iff_lt_mul (pow_pos' j), Nat.mul_comm, ← Nat.pow_succ]
  exact h

theorem top_zero {N j : Nat} (h : N < 4294967296 ^ (j + 1)) (h0 : wd N j = 0) : N < 4294967296 ^ j := by
  rw [wd_top h] at h0
  exact (Nat.div_eq_zero_iff_lt (pow_pos' j)).1 h0

theorem top_pos {N j : Nat} (h : N < 4294967296 ^ (j + 1)) (h0 : ¬ wd N j = 0) : 4294967296 ^ j ≤ N := by
  rw [wd_top h] at h0
  exact Nat.not_lt.1 fun hl => h0 ((Nat.div_eq_zero_iff_lt (pow_pos' j)).2 hl)

set_option maxHeartbeats 400000 in
theorem trim_any {w : World} {v : Value} {n N : Nat} (h : Hol 0 w v n N) (hn : n ≤ 1000000) :
    Calls Tryz.prog 87 #[v] w fun e w' => w' = w ∧ ∃ v', e = .returned v' ∧ Nt w v' n N := by
  obtain ⟨ao, cap, rfl, hcap, hcell⟩ := h.shape
  have HH : Hid (Hol 0 w (.slice ao n cap) n N) := h
  have HC : Hid (∀ k, k < n → ∃ g, ao = some ⟨g, 0, none⟩ ∧ 0 ≤ g ∧ g < w.heap.size ∧ w.cell? ⟨g, k, none⟩ = some (.int .u32 ((wd N k : Nat) : Int))) := hcell
  have HN : Hid (N < 4294967296 ^ n) := h.1
  clear h hcell
  go_enter Tryz.func87, Tryz.ntmps87
  go_wp2
  go_loopw [0] (fun v wr => ∃ k : Nat, k ≤ n ∧ v = .slice ao k cap ∧ Hid (N < 4294967296 ^ k) ∧ wr = w) (fun v _ => lenOf v)
  case atStart => exact ⟨n, Nat.le_refl _, rfl, HN, rfl⟩
  case round =>
    obtain ⟨k, hk, rfl, hNk, rfl⟩ := hrel
    cases k with
    | zero =>
      go_wp2
      go_ret
      refine ⟨rfl, _, rfl, 0, Nat.zero_le _, HH.out.cut (Nat.zero_le _) hNk.out (fun _ => rfl), Or.inl rfl⟩
    | succ j =>
      obtain ⟨g, rfl, _, hg, hc⟩ := HC.out j (by omega)
      clear HC
      by_cases h0 : wd N j = 0
      · have hz : Hid (N < 4294967296 ^ j) := top_zero hNk.out h0
        rw [h0] at hc
        go_wp2
        go_roundw
        case rel => exact ⟨j, by omega, rfl, hz, trivial⟩
        case measure => simp [lenOf]
      · have hz : Hid (4294967296 ^ j ≤ N) := top_pos hNk.out h0
        have h1 : ¬ ((wd N j : Nat) : Int) = 0 := by omega
        go_wp2
        go_ret
        refine ⟨rfl, _, rfl, j + 1, hk, HH.out.cut hk hNk.out (fun h => by cases h), Or.inr hz.out⟩
end Go.Proofs.YtddbekacdfohpaaGreatDoor.Q

namespace Go.Proofs.YtddbekacdfohpaaGreatDoor.Q
open Go.RowKit

theorem wd_zero (N : Nat) : wd N 0 = N % 4294967296 := by simp [wd]
theorem wd_one (N : Nat) : wd N 1 = N / 4294967296 % 4294967296 := by simp [wd]

theorem hol_two (w : World) (U : Nat) (a b : Int) (hU : U < 18446744073709551616) (ha : a = ((U % 4294967296 : Nat) : Int)) (hb : b = ((U / 4294967296 : Nat) : Int)) :
    Hol 0 (w.alloc (.cells #[.int .u32 a, .int .u32 b] 70)) (.slice (some ⟨w.heap.size, 0, none⟩) 2 2) 2 U := by
  subst ha hb
  refine ⟨by omega, by simp [wds], Or.inr ⟨w.heap.size, 2, _, rfl, Nat.zero_le _, heap_alloc_new w _, Nat.le_refl _, by decide, rfl, ?_⟩⟩
  have e : U / 4294967296 % 4294967296 = U / 4294967296 := Nat.mod_eq_of_lt (by omega)
  simp [wds, List.range_succ, wd_zero, wd_one, e]

theorem nat_any (U : Nat) (hU : U < 18446744073709551616) (w : World) :
    Calls Tryz.prog 67 #[.int .u64 (U : Int)] w fun e w' => Below w.heap.size w w' ∧ ∃ v, e = .returned v ∧ Nt w' v 2 U := by
  go_enter Tryz.func67, Tryz.ntmps67
  go_wp2_with (go_at_call 87; refine (trim_any (hol_two w U _ _ hU (by omega) (by omega)) (by decide)).mono ?_; rintro e w' ⟨rfl, v, rfl, hv⟩)
  go_ret
  exact ⟨below_one _, _, rfl, hv⟩

theorem low_any {w : World} {v : Value} {m N : Nat} (h : Nt w v m N) (hN : N < 18446744073709551616) :
    Calls Tryz.prog 86 #[v] w fun e w' => e = .returned (.int .u64 (N : Int)) ∧ w' = w := by
  obtain ⟨n, hn, hh, ht⟩ := h
  obtain ⟨ao, cap, rfl, hcap, hcell⟩ := hh.shape
  have hlt := hh.1
  clear hh
  match n, ht, hcell, hlt with
  | 0, _, _, hlt =>
    obtain rfl : N = 0 := by simpa using hlt
    go_enter Tryz.func86, Tryz.ntmps86
    go_wp2
    go_ret
    exact ⟨rfl, rfl⟩
  | 1, _, hcell, hlt =>
    obtain ⟨g, rfl, _, hg, hc⟩ := hcell 0 (by decide)
    have e : wd N 0 = N := by rw [wd_zero]; exact Nat.mod_eq_of_lt (by simpa using hlt)
    rw [e] at hc
    clear hcell ht
    go_enter Tryz.func86, Tryz.ntmps86
    go_wp2
    go_ret
    exact ⟨rfl, rfl⟩
  | n + 2, ht, hcell, hlt =>
    obtain ⟨g, rfl, _, hg, hc⟩ := hcell 0 (by omega)
    obtain ⟨g', hg', _, _, hc1⟩ := hcell 1 (by omega)
    cases hg'
    have e : ((wd N 0 : Nat) : Int) + ((wd N 1 : Nat) : Int) * 4294967296 = N := by
      rw [wd_zero, wd_one, Nat.mod_eq_of_lt (a := N / 4294967296) (by omega)]; omega
    have h0 := wd_lt N 0
    have h1 := wd_lt N 1
    have HE : Hid (((wd N 0 : Nat) : Int) + ((wd N 1 : Nat) : Int) * 4294967296 = N) := e
    clear hcell ht hlt e
    go_enter Tryz.func86, Tryz.ntmps86
    go_wp2
    go_ret
    refine ⟨?_, rfl⟩
    rw [← HE.out]
    rfl

theorem bit_any {w : World} {v : Value} {m N : Nat} (h : Nt w v m N) :
    Calls Tryz.prog 84 #[v, .int .i64 0] w fun e w' => e = .returned (.bool (N % 2 == 1)) ∧ w' = w := by
  obtain ⟨n, hn, hh, ht⟩ := h
  obtain ⟨ao, cap, rfl, hcap, hcell⟩ := hh.shape
  have hlt := hh.1
  clear hh
  match n, ht, hcell, hlt with
  | 0, _, _, hlt =>
    obtain rfl : N = 0 := by simpa using hlt
    go_enter Tryz.func84, Tryz.ntmps84
    go_wp2
    go_ret
    exact ⟨rfl, rfl⟩
  | n + 1, ht, hcell, hlt =>
    obtain ⟨g, rfl, _, hg, hc⟩ := hcell 0 (by omega)
    have h0 := wd_lt N 0
    have HE : Hid ((((wd N 0 : Nat) : Int) % 2 == 1) = (N % 2 == 1)) := by
      rw [wd_zero]
      have : ((N % 4294967296 : Nat) : Int) % 2 = ((N % 2 : Nat) : Int) := by omega
      rw [this]
      rcases Nat.mod_two_eq_zero_or_one N with h | h <;> rw [h] <;> rfl
    clear hcell ht hlt
    go_enter Tryz.func84, Tryz.ntmps84
    go_wp2
    go_ret
    refine ⟨?_, rfl⟩
    rw [← HE.out]
    rfl

/-- How many bits a number has. -/
def Bl (N L : Nat) : Prop := (N = 0 ∧ L = 0) ∨ (0 < L ∧ 2 ^ (L - 1) ≤ N ∧ N < 2 ^ L)

theorem bl_of {N n j : Nat} (_hN : N < 4294967296 ^ (n + 1)) (ht : 4294967296 ^ n ≤ N) (h0 : N / 4294967296 ^ n / 2 ^ j = 0) (h1 : j = 0 ∨ 0 < N / 4294967296 ^ n / 2 ^ (j - 1)) : Bl N (32 * n + j) := by
  have hp := pow_pos' n
  have e32 : 4294967296 ^ n = 2 ^ (32 * n) := by rw [Nat.pow_mul]
  rw [e32] at hp ht h0 h1
  rw [Nat.div_div_eq_div_mul, ← Nat.pow_add] at h0 h1
  have hlt : N < 2 ^ (32 * n + j) := (Nat.div_eq_zero_iff_lt (Nat.pow_pos (by decide))).1 h0
  cases j with
  | zero => exact absurd hlt (by simpa using ht)
  | succ j =>
    refine Or.inr ⟨by omega, ?_, hlt⟩
    have : 0 < N / 2 ^ (32 * n + j) := by rcases h1 with h | h; cases h; exact h
    have := Nat.div_pos_iff.1 this
    exact this.2

set_option maxHeartbeats 400000 in
theorem bits_any {w : World} {v : Value} {m N : Nat} (h : Nt w v m N) (hm : m ≤ 1000000) :
    Calls Tryz.prog 78 #[v] w fun e w' => ∃ L : Nat, e = .returned (.int .i64 (L : Int)) ∧ w' = w ∧ Bl N L := by
  obtain ⟨n, hn, hh, ht⟩ := h
  obtain ⟨ao, cap, rfl, hcap, hcell⟩ := hh.shape
  have hlt := hh.1
  clear hh
  match n, ht, hcell, hlt with
  | 0, _, _, hlt =>
    obtain rfl : N = 0 := by simpa using hlt
    go_enter Tryz.func78, Tryz.ntmps78
    go_wp2
    go_ret
    exact ⟨0, rfl, rfl, Or.inl ⟨rfl, rfl⟩⟩
  | n + 1, ht, hcell, hlt =>
    have ht' : 4294967296 ^ n ≤ N := by rcases ht with h | h; cases h; exact h
    obtain ⟨g, rfl, _, hg, hc⟩ := hcell n (by omega)
    rw [wd_top hlt] at hc
    have hT : N / 4294967296 ^ n < 4294967296 := by have := wd_lt N n; rwa [wd_top hlt] at this
    have HB : Hid (∀ j, N / 4294967296 ^ n / 2 ^ j = 0 → (j = 0 ∨ 0 < N / 4294967296 ^ n / 2 ^ (j - 1)) → Bl N (32 * n + j)) := fun j h0 h1 => bl_of hlt ht' h0 h1
    generalize N / 4294967296 ^ n = T at *
    clear hcell ht hlt ht'
    go_enter Tryz.func78, Tryz.ntmps78
    go_wp2
    go_loop [3, 4] (fun c x => ∃ (j X : Nat), x = .int .u32 (X : Int) ∧ c = .int .i64 (32 * (n : Int) + j) ∧ Hid (X = T / 2 ^ j) ∧ j ≤ 32 ∧ Hid (j = 0 ∨ 0 < T / 2 ^ (j - 1))) (fun _ x => (intOf x).toNat)
    case atStart => exact ⟨0, T, rfl, by simp, by simp [Hid], by omega, Or.inl rfl⟩
    case round =>
      obtain ⟨j, X, rfl, rfl, hX, hj, hz⟩ := hrel
      have hXT : X < 4294967296 := by rw [hX.out]; exact Nat.lt_of_le_of_lt (Nat.div_le_self _ _) hT
      by_cases h0 : X = 0
      · subst h0
        have HF : Hid (Bl N (32 * n + j)) := HB.out j hX.out.symm hz.out
        go_wp2
        go_ret
        exact ⟨32 * n + j, by go_num, rfl, HF.out⟩
      · have h1 : 0 < X := by omega
        have hj2 : Hid (j < 32) := by
          rcases Nat.lt_or_ge j 32 with h | h
          · exact h
          · exfalso
            obtain rfl : j = 32 := by omega
            have := hX.out
            rw [Nat.div_eq_of_lt (by simpa using hT)] at this
            omega
        have hX2 : Hid (X / 2 = T / 2 ^ (j + 1)) := by
          show X / 2 = T / 2 ^ (j + 1)
          rw [hX.out, Nat.div_div_eq_div_mul, ← Nat.pow_succ]
        have hz2 : Hid (j + 1 = 0 ∨ 0 < T / 2 ^ (j + 1 - 1)) := Or.inr (by rw [Nat.add_sub_cancel, ← hX.out]; exact h1)
        go_wp2
        go_round
        case rel => exact ⟨j + 1, X / 2, by go_num, by go_num, hX2, hj2.out, hz2⟩
        case measure => simp [intOf]; omega

theorem wd_eq {A k : Nat} : A / 4294967296 ^ k = A / 4294967296 ^ (k + 1) * 4294967296 + wd A k := by
  unfold wd
  rw [Nat.pow_succ, ← Nat.div_div_eq_div_mul]
  omega

theorem cmp_lt {A B k : Nat} (h : A / 4294967296 ^ (k + 1) = B / 4294967296 ^ (k + 1)) (hw : wd A k < wd B k) : A < B := by
  have ha := wd_eq (A := A) (k := k)
  have hb := wd_eq (A := B) (k := k)
  rcases Nat.lt_or_ge A B with h1 | h1
  · exact h1
  · have := Nat.div_le_div_right (c := 4294967296 ^ k) h1
    omega

theorem cmp_step {A B k : Nat} (h : A / 4294967296 ^ (k + 1) = B / 4294967296 ^ (k + 1)) (hw : wd A k = wd B k) : A / 4294967296 ^ k = B / 4294967296 ^ k := by
  rw [wd_eq (A := A), wd_eq (A := B), h, hw]

theorem len_lt {A B n k : Nat} (hA : A < 4294967296 ^ n) (hB : 4294967296 ^ (k - 1) ≤ B) (h : n < k) : A < B :=
  Nat.lt_of_lt_of_le hA (Nat.le_trans (Nat.pow_le_pow_right (by decide) (by omega)) hB)

/-- Which of two is greater, as a number. -/
def cmpOf (A B : Nat) : Int := if A < B then -1 else if A = B then 0 else 1

set_option maxHeartbeats 1000000 in
theorem cmp_any {w : World} {v u : Value} {m A B : Nat} (ha : Nt w v m A) (hb : Nt w u m B) (hm : m ≤ 1000000) :
    Calls Tryz.prog 82 #[v, u] w fun e w' => e = .returned (.int .i64 (cmpOf A B)) ∧ Below w.heap.size w w' := by
  obtain ⟨n, hn, hh, ht⟩ := ha
  obtain ⟨k, hk, hh2, ht2⟩ := hb
  obtain ⟨ao, cap, rfl, hcap, hcell⟩ := hh.shape
  obtain ⟨bo, cap2, rfl, hcap2, hcell2⟩ := hh2.shape
  have hlt := hh.1
  have hlt2 := hh2.1
  clear hh hh2
  rcases Nat.lt_trichotomy n k with h | rfl | h
  · have hAB : A < B := len_lt hlt (by rcases ht2 with h | h; omega; exact h) h
    have e : cmpOf A B = -1 := by simp [cmpOf, hAB]
    rw [e]
    clear hcell hcell2 hlt hlt2 ht ht2 hAB e
    have h1 : ((n : Int) = k) = False := by simp; omega
    go_enter Tryz.func82, Tryz.ntmps82
    go_wp2
    go_ret
    exact ⟨rfl, Below.refl _ _⟩
  · have HC : Hid (∀ k, k < n → ∃ g, ao = some ⟨g, 0, none⟩ ∧ 0 ≤ g ∧ g < w.heap.size ∧ w.cell? ⟨g, k, none⟩ = some (.int .u32 ((wd A k : Nat) : Int))) := hcell
    have HC2 : Hid (∀ k, k < n → ∃ g, bo = some ⟨g, 0, none⟩ ∧ 0 ≤ g ∧ g < w.heap.size ∧ w.cell? ⟨g, k, none⟩ = some (.int .u32 ((wd B k : Nat) : Int))) := hcell2
    have HS : Hid (A / 4294967296 ^ n = B / 4294967296 ^ n) := by show A / _ = B / _; rw [Nat.div_eq_of_lt hlt, Nat.div_eq_of_lt hlt2]
    clear hcell hcell2 hlt hlt2 ht ht2
    go_enter Tryz.func82, Tryz.ntmps82
    go_wp2
    go_loopw [5] (fun i wr => ∃ (k : Nat) (x : Int), i = .int .i64 x ∧ x = (k : Int) - 1 ∧ k ≤ n ∧ Hid (A / 4294967296 ^ k = B / 4294967296 ^ k) ∧ Below w.heap.size w wr) (fun i _ => (intOf i + 1).toNat)
    case atStart => exact ⟨n, _, rfl, rfl, Nat.le_refl _, HS, Below.refl _ _⟩
    case round =>
      obtain ⟨k, x, rfl, hx, hkn, hS, hbl⟩ := hrel
      cases k with
      | zero =>
        obtain rfl : x = -1 := by omega
        clear hx
        have e : Hid (cmpOf A B = 0) := by have := hS.out; simp at this; show cmpOf A B = 0; simp [cmpOf, this]
        have HL : Hid (Below w.heap.size w wr) := hbl
        clear hbl
        go_wp2
        go_ret
        exact ⟨by rw [e.out]; rfl, HL.out⟩
      | succ j =>
        obtain rfl : x = (j : Int) := by omega
        clear hx
        obtain ⟨g, rfl, _, hg, hc⟩ := HC.out j (by omega)
        obtain ⟨g2, rfl, _, hg2, hc2⟩ := HC2.out j (by omega)
        have hc' : wr.cell? ⟨g, j, none⟩ = some (.int .u32 ((wd A j : Nat) : Int)) := (hbl.cell (by exact hg)).trans hc
        have hc2' : wr.cell? ⟨g2, j, none⟩ = some (.int .u32 ((wd B j : Nat) : Int)) := (hbl.cell (by exact hg2)).trans hc2
        have HL : Hid (Below w.heap.size w wr) := hbl
        clear hbl hc hc2 HC HC2
        rcases Nat.lt_trichotomy (wd A j) (wd B j) with hw | hw | hw
        · have e : Hid (cmpOf A B = -1) := by have := cmp_lt hS.out hw; show cmpOf A B = -1; simp [cmpOf, this]
          have h1 : ((wd A j : Nat) : Int) < ((wd B j : Nat) : Int) := by omega
          have h2 : ((((wd A j : Nat) : Int) != ((wd B j : Nat) : Int)) = true) := by simp; omega
          go_wp2
          go_quiet (fail)
          go_wp2
          go_quiet (fail)
          go_wp2
          go_ret
          exact ⟨by rw [e.out]; rfl, below_drewN (below_drewN HL.out _) _⟩
        · have h2 : ((((wd A j : Nat) : Int) != ((wd B j : Nat) : Int)) = false) := by simp; omega
          have hS2 : Hid (A / 4294967296 ^ j = B / 4294967296 ^ j) := cmp_step hS.out hw
          clear hw
          go_wp2
          go_quiet (fail)
          go_wp2
          go_roundw
          case rel => exact ⟨j, _, rfl, rfl, by omega, hS2, below_drewN HL.out _⟩
          case measure => simp [intOf]
        · have e : Hid (cmpOf A B = 1) := by have := cmp_lt hS.out.symm hw; show cmpOf A B = 1; simp [cmpOf]; omega
          have h1 : ¬ ((wd A j : Nat) : Int) < ((wd B j : Nat) : Int) := by omega
          have h2 : ((((wd A j : Nat) : Int) != ((wd B j : Nat) : Int)) = true) := by simp; omega
          go_wp2
          go_quiet (fail)
          go_wp2
          go_quiet (fail)
          go_wp2
          go_ret
          exact ⟨by rw [e.out]; rfl, below_drewN (below_drewN HL.out _) _⟩
  · have hAB : B < A := len_lt hlt2 (by rcases ht with h | h; omega; exact h) h
    have e : cmpOf A B = 1 := by simp [cmpOf]; omega
    rw [e]
    clear hcell hcell2 hlt hlt2 ht ht2 hAB e
    go_enter Tryz.func82, Tryz.ntmps82
    go_wp2
    go_ret
    exact ⟨rfl, Below.refl _ _⟩
end Go.Proofs.YtddbekacdfohpaaGreatDoor.Q
