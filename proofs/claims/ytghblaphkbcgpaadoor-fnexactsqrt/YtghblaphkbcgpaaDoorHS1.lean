/- The model's whole numbers: words of 32 bits in a slice, the lowest first: what a slice holds. -/
import Derived.Test.YtghblaphkbcgpaaDoorRows
import Derived.WalkKit
import Derived.WalkSpells
import Derived.WalkLawsBesides
import Derived.Deep.QuietTactic
import Derived.BigQuiet
import Derived.Laws.BitsAllLaws
namespace Go.Proofs.YtghblaphkbcgpaaDoor
open Go.RowKit

/-- The k-th word of a number. -/
def wd (N k : Nat) : Nat := N / 4294967296 ^ k % 4294967296

theorem wd_lt (N k : Nat) : wd N k < 4294967296 := Nat.mod_lt _ (by decide)

/-- The first n words of a number, as cells. -/
def wds (n N : Nat) : List Value := (List.range n).map fun k => .int .u32 ((wd N k : Nat) : Int)

theorem wds_length (n N : Nat) : (wds n N).length = n := by simp [wds]

theorem wds_get {n N k : Nat} (h : k < n) : (wds n N)[k]? = some (.int .u32 ((wd N k : Nat) : Int)) := by simp [wds, h]

theorem wds_take {n N k : Nat} (h : k ≤ n) : (wds n N).take k = wds k N := by
  apply List.ext_getElem?
  intro i
  by_cases hi : i < k
  · rw [List.getElem?_take, if_pos hi, wds_get (by omega), wds_get hi]
  · rw [List.getElem?_take, if_neg hi, List.getElem?_eq_none (by rw [wds_length]; omega)]

theorem pow_pos' (k : Nat) : 0 < 4294967296 ^ k := Nat.pow_pos (by decide)

theorem pow_succ' (k : Nat) : 4294967296 ^ (k + 1) = 4294967296 ^ k * 4294967296 := Nat.pow_succ ..

theorem wd_add_lt {N x n k : Nat} (hk : k < n) : wd (N + x * 4294967296 ^ n) k = wd N k := by
  unfold wd
  obtain ⟨j, rfl⟩ : ∃ j, n = k + 1 + j := ⟨n - k - 1, by omega⟩
  have e : x * 4294967296 ^ (k + 1 + j) = 4294967296 ^ k * (4294967296 * (x * 4294967296 ^ j)) := by
    rw [Nat.pow_add, Nat.pow_succ]
    ac_rfl
  rw [e, Nat.add_mul_div_left _ _ (pow_pos' k), Nat.add_mul_mod_self_left]

theorem wd_add_at {N x n : Nat} (hN : N < 4294967296 ^ n) (hx : x < 4294967296) : wd (N + x * 4294967296 ^ n) n = x := by
  unfold wd
  rw [Nat.add_mul_div_right _ _ (pow_pos' n), Nat.div_eq_of_lt hN, Nat.zero_add, Nat.mod_eq_of_lt hx]

theorem wds_snoc {N x n : Nat} (hN : N < 4294967296 ^ n) (hx : x < 4294967296) : wds n N ++ [.int .u32 ((x : Nat) : Int)] = wds (n + 1) (N + x * 4294967296 ^ n) := by
  apply List.ext_getElem?
  intro i
  by_cases hi : i < n
  · rw [List.getElem?_append_left (by rw [wds_length]; exact hi), wds_get hi, wds_get (by omega), wd_add_lt hi]
  · by_cases hi2 : i = n
    · subst hi2
      rw [List.getElem?_append_right (by rw [wds_length]; omega), wds_get (by omega), wd_add_at hN hx, wds_length]
      simp
    · rw [List.getElem?_eq_none (by simp [wds_length]; omega), List.getElem?_eq_none (by rw [wds_length]; omega)]

theorem snoc_lt {N x n : Nat} (hN : N < 4294967296 ^ n) (hx : x < 4294967296) : N + x * 4294967296 ^ n < 4294967296 ^ (n + 1) := by
  have h1 : (x + 1) * 4294967296 ^ n ≤ 4294967296 * 4294967296 ^ n := Nat.mul_le_mul_right _ (by omega)
  have h2 : (x + 1) * 4294967296 ^ n = x * 4294967296 ^ n + 4294967296 ^ n := by rw [Nat.add_mul, Nat.one_mul]
  rw [Nat.pow_succ, Nat.mul_comm (4294967296 ^ n)]
  omega

/-- The slice holds the number in n words, in a row of its own from block number 'base' on. -/
def Hol (base : Nat) (w : World) (v : Value) (n N : Nat) : Prop := N < 4294967296 ^ n ∧ w.ownsRow base 50 1 v n (wds n N)

/-- The slice holds the number in at most m words, the last of which is not 0. -/
def Nt (w : World) (v : Value) (m N : Nat) : Prop := ∃ n, n ≤ m ∧ Hol 0 w v n N ∧ (n = 0 ∨ 4294967296 ^ (n - 1) ≤ N)

theorem Hol.shape {base : Nat} {w : World} {v : Value} {n N : Nat} (h : Hol base w v n N) :
    ∃ ao cap, v = .slice ao n cap ∧ n ≤ cap ∧ ∀ k, k < n → ∃ g, ao = some ⟨g, 0, none⟩ ∧ base ≤ g ∧ g < w.heap.size ∧ w.cell? ⟨g, k, none⟩ = some (.int .u32 ((wd N k : Nat) : Int)) := by
  have hh := h.2
  rcases h.2.2 with ⟨rfl, rfl⟩ | ⟨g, cap, cur, rfl, hb, hg, hn, hm, hs, ht⟩
  · exact ⟨none, 0, rfl, Nat.le_refl _, fun k hk => absurd hk (by omega)⟩
  · refine ⟨_, cap, rfl, hn, fun k hk => ⟨g, rfl, hb, (Array.getElem?_eq_some_iff.1 hg).1, ?_⟩⟩
    have := hh.cells rfl k _ (wds_get hk)
    have hadd : (⟨g, 0, none⟩ : Addr).add k = ⟨g, k, none⟩ := by unfold Addr.add; split <;> simp_all
    rwa [hadd] at this

theorem Hol.below {base : Nat} {w w' : World} {v : Value} {n N : Nat} (h : Hol base w v n N) (hb : Below w.heap.size w w') : Hol base w' v n N := by
  refine ⟨h.1, h.2.1, ?_⟩
  rcases h.2.2 with h2 | ⟨g, cap, cur, hv, hbg, hg, r⟩
  · exact Or.inl h2
  · exact Or.inr ⟨g, cap, cur, hv, hbg, by rw [hb.block g (Array.getElem?_eq_some_iff.1 hg).1]; exact hg, r⟩

theorem Hol.zero {base : Nat} {w : World} {v : Value} {n N : Nat} (h : Hol base w v n N) : Hol 0 w v n N := by
  refine ⟨h.1, h.2.1, ?_⟩
  rcases h.2.2 with h2 | ⟨g, cap, cur, hv, hbg, hg, r⟩
  · exact Or.inl h2
  · exact Or.inr ⟨g, cap, cur, hv, Nat.zero_le _, hg, r⟩

theorem Nt.below {w w' : World} {v : Value} {m N : Nat} (h : Nt w v m N) (hb : Below w.heap.size w w') : Nt w' v m N := by
  obtain ⟨n, hn, hh, ht⟩ := h
  exact ⟨n, hn, hh.below hb, ht⟩

/-- A beginning of the words, where the rest is 0. -/
theorem Hol.cut {base : Nat} {w : World} {ao : Option Addr} {n cap k N : Nat} (h : Hol base w (.slice ao n cap) n N) (hk : k ≤ n) (hN : N < 4294967296 ^ k) (hk0 : ao = none → k = 0) : Hol base w (.slice ao k cap) k N := by
  refine ⟨hN, by rw [wds_length]; omega, ?_⟩
  rcases h.2.2 with ⟨h2, rfl⟩ | ⟨g, cap', cur, hv, hbg, hg, hn, hm, hs, ht⟩
  · left
    obtain rfl : k = 0 := by omega
    cases h2
    exact ⟨rfl, rfl⟩
  · right
    cases hv
    refine ⟨g, cap, cur, rfl, hbg, hg, by omega, hm, hs, ?_⟩
    rw [← wds_take hk, ← ht, List.take_take]
    congr 1
    omega

/-- How long a slice is: a loop's measure. -/
def lenOf : Value → Nat | .slice _ k _ => k | _ => 0

theorem wd_top {N j : Nat} (h : N < 4294967296 ^ (j + 1)) : wd N j = N / 4294967296 ^ j := by
  unfold wd
  apply Nat.mod_eq_of_lt
  rw [Nat.div_lt_iff_lt_mul (pow_pos' j), Nat.mul_comm, ← Nat.pow_succ]
  exact h

theorem top_zero {N j : Nat} (h : N < 4294967296 ^ (j + 1)) (h0 : wd N j = 0) : N < 4294967296 ^ j := by
  rw [wd_top h] at h0
  exact (Nat.div_eq_zero_iff_lt (pow_pos' j)).1 h0

theorem top_pos {N j : Nat} (h : N < 4294967296 ^ (j + 1)) (h0 : ¬ wd N j = 0) : 4294967296 ^ j ≤ N := by
  rw [wd_top h] at h0
  exact Nat.not_lt.1 fun hl => h0 ((Nat.div_eq_zero_iff_lt (pow_pos' j)).2 hl)

set_option maxHeartbeats 400000 in
theorem trim_any {w : World} {v : Value} {n N : Nat} (h : Hol 0 w v n N) (hn : n ≤ 1000000) :
    Calls Tryd.prog 26 #[v] w fun e w' => w' = w ∧ ∃ v', e = .returned v' ∧ Nt w v' n N := by
  obtain ⟨ao, cap, rfl, hcap, hcell⟩ := h.shape
  have HH : Hid (Hol 0 w (.slice ao n cap) n N) := h
  have HC : Hid (∀ k, k < n → ∃ g, ao = some ⟨g, 0, none⟩ ∧ 0 ≤ g ∧ g < w.heap.size ∧ w.cell? ⟨g, k, none⟩ = some (.int .u32 ((wd N k : Nat) : Int))) := hcell
  have HN : Hid (N < 4294967296 ^ n) := h.1
  clear h hcell
  go_enter Tryd.func26, Tryd.ntmps26
  go_wp2
  go_loopw [0] (fun v wr => ∃ k : Nat, k ≤ n ∧ v = .slice ao k cap ∧ Hid (N < 4294967296 ^ k) ∧ wr = w) (fun v _ => lenOf v)
  case atStart => exact ⟨n, Nat.le_refl _, rfl, HN, rfl⟩
  case round =>
    obtain ⟨k, hk, rfl, hNk, rfl⟩ := hrel
    cases k with
    | zero =>
      go_wp2
      go_ret
      refine ⟨rfl, _, rfl, 0, Nat.zero_le _, HH.out.cut (Nat.zero_le _) hNk.out (fun _ => rfl), Or.inl rfl⟩
    | succ j =>
      obtain ⟨g, rfl, _, hg, hc⟩ := HC.out j (by omega)
      clear HC
      by_cases h0 : wd N j = 0
      · have hz : Hid (N < 4294967296 ^ j) := top_zero hNk.out h0
        rw [h0] at hc
        go_wp2
        go_roundw
        case rel => exact ⟨j, by omega, rfl, hz, trivial⟩
        case measure => simp [lenOf]
      · have hz : Hid (4294967296 ^ j ≤ N) := top_pos hNk.out h0
        have h1 : ¬ ((wd N j : Nat) : Int) = 0 := by omega
        go_wp2
        go_ret
        refine ⟨rfl, _, rfl, j + 1, hk, HH.out.cut hk hNk.out (fun h => by cases h), Or.inr hz.out⟩
end Go.Proofs.YtghblaphkbcgpaaDoor

/- Plain facts on numbers and their bits: nothing of the program stands here. -/
namespace Go.Proofs.YtghblaphkbcgpaaDoor

theorem nat_low (k x : Nat) (hk : k < 64) (hx : x < 2 ^ (k + 1)) : x &&& (18446744073709551615 - 2 ^ k) = x % 2 ^ k := by
  have e : 18446744073709551615 - 2 ^ k = 2 ^ 64 - (2 ^ k + 1) := by omega
  have h2 : 2 ^ k < 2 ^ 64 := Nat.pow_lt_pow_right (by omega) hk
  rw [e]
  apply Nat.eq_of_testBit_eq
  intro i
  rw [Nat.testBit_and, Nat.testBit_two_pow_sub_succ h2, Nat.testBit_mod_two_pow, Nat.testBit_two_pow]
  by_cases h1 : i < k
  · have : ¬ k = i := by omega
    have : i < 64 := by omega
    simp [*]
  · by_cases h3 : k = i
    · simp [h3]
    · have : x.testBit i = false := Nat.testBit_lt_two_pow (Nat.lt_of_lt_of_le hx (Nat.pow_le_pow_right (by omega) (by omega)))
      simp [this]

theorem and_top (k : Nat) (x : Int) (hk : k < 64) (h0 : 0 ≤ x) (hx : x < ((2 ^ (k + 1) : Nat) : Int)) :
    bits .and .u64 x ((2 ^ k : Nat) : Int) = (if x < ((2 ^ k : Nat) : Int) then 0 else ((2 ^ k : Nat) : Int)) ∧
    bits .andNot .u64 x ((2 ^ k : Nat) : Int) = (if x < ((2 ^ k : Nat) : Int) then x else x - ((2 ^ k : Nat) : Int)) := by
  obtain ⟨n, rfl⟩ := Int.eq_ofNat_of_zero_le h0
  have hn : n < 2 ^ (k + 1) := by exact_mod_cast hx
  have h2 : 2 ^ k < 2 ^ 64 := Nat.pow_lt_pow_right (by omega) hk
  have h3 : 2 ^ (k + 1) ≤ 2 ^ 64 := Nat.pow_le_pow_right (by omega) (by omega)
  have h4 : 2 ^ (k + 1) = 2 * 2 ^ k := by rw [Nat.pow_succ]; omega
  have h5 : 0 < 2 ^ k := Nat.two_pow_pos k
  have e1 := u64_and_nat n (2 ^ k) (by omega) (by omega)
  have e2 := u64_andNot_nat n (2 ^ k) (by omega) (by omega)
  rw [nat_bit] at e1
  rw [nat_low k n hk hn] at e2
  rw [e1, e2]
  generalize 2 ^ k = m at *
  by_cases h : n < m
  · have a1 : n / m = 0 := Nat.div_eq_of_lt h
    have a2 : n % m = n := Nat.mod_eq_of_lt h
    rw [a1, a2, if_pos (by exact_mod_cast h), if_pos (by exact_mod_cast h)]
    simp
  · have a1 : n / m = 1 := by
      apply Nat.div_eq_of_lt_le <;> omega
    have a2 : n % m = n - m := by rw [Nat.mod_eq_sub_mod (by omega), Nat.mod_eq_of_lt (by omega)]
    rw [a1, a2, if_neg (by omega), if_neg (by omega)]
    simp
    omega

theorem and16 (x : Int) (h0 : 0 ≤ x) (h1 : x < 65536) : bits .and .u64 x 32768 = (if x < 32768 then 0 else 32768) ∧ bits .andNot .u64 x 32768 = (if x < 32768 then x else x - 32768) := and_top 15 x (by omega) h0 h1
theorem and32 (x : Int) (h0 : 0 ≤ x) (h1 : x < 4294967296) : bits .and .u64 x 2147483648 = (if x < 2147483648 then 0 else 2147483648) ∧ bits .andNot .u64 x 2147483648 = (if x < 2147483648 then x else x - 2147483648) := and_top 31 x (by omega) h0 h1
theorem and64 (x : Int) (h0 : 0 ≤ x) (h1 : x < 18446744073709551616) : bits .and .u64 x 9223372036854775808 = (if x < 9223372036854775808 then 0 else 9223372036854775808) ∧ bits .andNot .u64 x 9223372036854775808 = (if x < 9223372036854775808 then x else x - 9223372036854775808) := and_top 63 x (by omega) h0 h1

/-- What 'rank' answers, where x is bits of a form whose sign bit is S. -/
def rk (S x l : Int) : Int := if x < S then x else -(x - S) - l
end Go.Proofs.YtghblaphkbcgpaaDoor

/- The walks of the small functions of chapter 1: what each call answers, and that it leaves old memory as it was. -/
namespace Go.Proofs.YtghblaphkbcgpaaDoor
open Go.RowKit

/-- The table of the three forms lies in memory as the program's text lays it. -/
structure Shp (w : World) : Prop where
  c0 : w.cell? ⟨0, 0, none⟩ = some (.int .i64 0)
  c1 : w.cell? ⟨0, 1, none⟩ = some (.int .i64 0)
  c2 : w.cell? ⟨0, 2, none⟩ = some (.int .i64 0)
  c3 : w.cell? ⟨0, 3, none⟩ = some (.int .i64 16)
  c4 : w.cell? ⟨0, 4, none⟩ = some (.int .i64 11)
  c5 : w.cell? ⟨0, 5, none⟩ = some (.int .i64 15)
  c6 : w.cell? ⟨0, 6, none⟩ = some (.int .i64 32)
  c7 : w.cell? ⟨0, 7, none⟩ = some (.int .i64 24)
  c8 : w.cell? ⟨0, 8, none⟩ = some (.int .i64 127)
  c9 : w.cell? ⟨0, 9, none⟩ = some (.int .i64 64)
  c10 : w.cell? ⟨0, 10, none⟩ = some (.int .i64 53)
  c11 : w.cell? ⟨0, 11, none⟩ = some (.int .i64 1023)

theorem isBits_no (form x : Int) (w : World) (h : form < 1 ∨ 3 < form) :
    Calls Tryd.prog 36 #[.int .i64 form, .int .u64 x] w fun e w' => e = .returned (.bool false) ∧ w' = w := by
  rcases h with h | h
  · go_enter Tryd.func36, Tryd.ntmps36
    go_wp2
    go_ret
    exact ⟨rfl, rfl⟩
  · have h1 : ¬ form < 1 := by omega
    go_enter Tryd.func36, Tryd.ntmps36
    go_wp2
    go_ret
    exact ⟨rfl, rfl⟩


/-- The three forms: number, width, precision, greatest exponent, sign bit, twice that. -/
def Form (f wd p t S D : Int) : Prop := (f = 1 ∧ wd = 16 ∧ p = 11 ∧ t = 15 ∧ S = 32768 ∧ D = 65536) ∨ (f = 2 ∧ wd = 32 ∧ p = 24 ∧ t = 127 ∧ S = 2147483648 ∧ D = 4294967296) ∨ (f = 3 ∧ wd = 64 ∧ p = 53 ∧ t = 1023 ∧ S = 9223372036854775808 ∧ D = 18446744073709551616)

theorem isBits_any {f wd p t S D : Int} (hF : Form f wd p t S D) (x : Int) (w : World) (hs : Shp w) :
    Calls Tryd.prog 36 #[.int .i64 f, .int .u64 x] w fun e w' => e = .returned (.bool (x / D == 0)) ∧ w' = w := by
  obtain ⟨c0, c1, c2, c3, c4, c5, c6, c7, c8, c9, c10, c11⟩ := hs
  rcases hF with ⟨rfl, rfl, rfl, rfl, rfl, rfl⟩ | ⟨rfl, rfl, rfl, rfl, rfl, rfl⟩ | ⟨rfl, rfl, rfl, rfl, rfl, rfl⟩
  all_goals
    go_enter Tryd.func36, Tryd.ntmps36
    go_wp2
    go_ret
    exact ⟨rfl, rfl⟩

end Go.Proofs.YtghblaphkbcgpaaDoor

/- The walks of the model's Order. -/
namespace Go.Proofs.YtghblaphkbcgpaaDoor
open Go.RowKit

theorem l1Form_no (form : Int) (w : World) (h : form < 1 ∨ 3 < form) :
    Calls Tryd.prog 21 #[.int .i64 form] w fun e w' => e = .returned (.tuple #[.int .i64 0, .int .i64 0, .int .i64 0, .bool false]) ∧ w' = w := by
  have h1 : (form == 1) = false := by simp; omega
  have h2 : (form == 2) = false := by simp; omega
  have h3 : (form == 3) = false := by simp; omega
  clear h
  go_enter Tryd.func21, Tryd.ntmps21
  go_wp2
  exact bodyPost_ret (v := .tuple #[.int .i64 0, .int .i64 0, .int .i64 0, .bool false]) (by simp [results, Tryd.results21, go_sem]) rfl ⟨rfl, rfl⟩

theorem l1Form_any {f wd p t S D : Int} (hF : Form f wd p t S D) (w : World) :
    Calls Tryd.prog 21 #[.int .i64 f] w fun e w' => e = .returned (.tuple #[.int .i64 wd, .int .i64 p, .int .i64 t, .bool true]) ∧ w' = w := by
  rcases hF with ⟨rfl, rfl, rfl, rfl, rfl, rfl⟩ | ⟨rfl, rfl, rfl, rfl, rfl, rfl⟩ | ⟨rfl, rfl, rfl, rfl, rfl, rfl⟩
  all_goals
    go_enter Tryd.func21, Tryd.ntmps21
    go_wp2
    refine bodyPost_ret (v := .tuple #[.int .i64 _, .int .i64 _, .int .i64 _, .bool true]) (by simp [results, Tryd.results21, go_sem]) rfl ⟨rfl, rfl⟩

theorem l1Are_no (form x : Int) (w : World) (h : form < 1 ∨ 3 < form) :
    Calls Tryd.prog 18 #[.int .i64 form, .int .u64 x] w fun e w' => e = .returned (.bool false) ∧ w' = w := by
  go_enter Tryd.func18, Tryd.ntmps18
  go_wp2_with (go_at_call 21; refine (l1Form_no _ _ h).mono ?_; rintro e w' ⟨rfl, rfl⟩)
  go_ret
  exact ⟨rfl, rfl⟩

theorem l1Are_any {f wd p t S D : Int} (hF : Form f wd p t S D) (x : Int) (h0 : 0 ≤ x) (h1 : x < 18446744073709551616) (w : World) :
    Calls Tryd.prog 18 #[.int .i64 f, .int .u64 x] w fun e w' => e = .returned (.bool (x / D == 0)) ∧ w' = w := by
  have hF' := hF
  rcases hF with ⟨rfl, rfl, rfl, rfl, rfl, rfl⟩ | ⟨rfl, rfl, rfl, rfl, rfl, rfl⟩ | ⟨rfl, rfl, rfl, rfl, rfl, rfl⟩
  · go_enter Tryd.func18, Tryd.ntmps18
    go_wp2_with (go_at_call 21; refine (l1Form_any hF' _).mono ?_; rintro e w' ⟨rfl, rfl⟩)
    go_ret
    exact ⟨rfl, rfl⟩
  · go_enter Tryd.func18, Tryd.ntmps18
    go_wp2_with (go_at_call 21; refine (l1Form_any hF' _).mono ?_; rintro e w' ⟨rfl, rfl⟩)
    go_ret
    exact ⟨rfl, rfl⟩
  · have h2 : (x / 18446744073709551616 == 0) = true := by
      rw [beq_iff_eq]
      exact Int.ediv_eq_zero_of_lt h0 h1
    rw [h2]
    clear h2 h1
    go_enter Tryd.func18, Tryd.ntmps18
    go_wp2_with (go_at_call 21; refine (l1Form_any hF' _).mono ?_; rintro e w' ⟨rfl, rfl⟩)
    go_ret
    exact ⟨rfl, rfl⟩

theorem l1Sign_true {f wd p t S D : Int} (hF : Form f wd p t S D) (w : World) :
    Calls Tryd.prog 31 #[.int .i64 f, .bool true] w fun e w' => e = .returned (.int .u64 S) ∧ w' = w := by
  have hF' := hF
  rcases hF with ⟨rfl, rfl, rfl, rfl, rfl, rfl⟩ | ⟨rfl, rfl, rfl, rfl, rfl, rfl⟩ | ⟨rfl, rfl, rfl, rfl, rfl, rfl⟩
  all_goals
    go_enter Tryd.func31, Tryd.ntmps31
    go_wp2_with (go_at_call 21; refine (l1Form_any hF' _).mono ?_; rintro e w' ⟨rfl, rfl⟩)
    go_ret
    exact ⟨rfl, rfl⟩

/-- The order of all bits, of a form whose sign bit is S. -/
def ord (S x y : Int) : Int :=
  if x = y then 0 else if S ≤ x ∧ y < S then -1 else if x < S ∧ S ≤ y then 1 else if (x < S ∧ x < y) ∨ (S ≤ x ∧ y < x) then -1 else 1

theorem and_any {f wd p t S D : Int} (hF : Form f wd p t S D) (x : Int) (h0 : 0 ≤ x) (h1 : x < D) :
    bits .and .u64 x S = (if x < S then 0 else S) ∧ bits .andNot .u64 x S = (if x < S then x else x - S) := by
  rcases hF with ⟨rfl, rfl, rfl, rfl, rfl, rfl⟩ | ⟨rfl, rfl, rfl, rfl, rfl, rfl⟩ | ⟨rfl, rfl, rfl, rfl, rfl, rfl⟩
  · exact and16 x h0 h1
  · exact and32 x h0 h1
  · exact and64 x h0 h1

end Go.Proofs.YtghblaphkbcgpaaDoor

/- Plain facts: a number is an odd one times a power of two in one way alone. -/
namespace Go.Proofs.YtghblaphkbcgpaaDoor

/-- m is man times 2^k. -/
structure Tz (m man : Int) (k : Nat) : Prop where
  pos : 1 ≤ man
  eq : m = man * ((2 ^ k : Nat) : Int)

theorem Tz.start {m : Int} (h : 1 ≤ m) : Tz m m 0 := ⟨h, by simp⟩

theorem Tz.step {m man : Int} {k : Nat} (h : Tz m man k) (he : man % 2 = 0) : Tz m (man / 2) (k + 1) := by
  refine ⟨by have := h.pos; omega, ?_⟩
  rw [h.eq, Nat.pow_succ]
  have e : man = man / 2 * 2 := by omega
  generalize man / 2 = q at e
  subst e
  push_cast
  rw [Int.mul_assoc, Int.mul_comm 2]

theorem Tz.le {m man : Int} {k : Nat} (h : Tz m man k) (hm : m < 18446744073709551616) : k ≤ 63 ∧ man ≤ m := by
  have hp := h.pos
  have he := h.eq
  have h1 : (1 : Int) ≤ ((2 ^ k : Nat) : Int) := by exact_mod_cast Nat.one_le_two_pow
  have h2 : ((2 ^ k : Nat) : Int) ≤ m := by
    rw [he]
    have := Int.mul_le_mul_of_nonneg_right hp (show (0 : Int) ≤ ((2 ^ k : Nat) : Int) by omega)
    omega
  have h3 : man ≤ m := by
    rw [he]
    have := Int.mul_le_mul_of_nonneg_left h1 (show (0 : Int) ≤ man by omega)
    omega
  refine ⟨?_, h3⟩
  apply Nat.le_of_lt_succ
  apply (Nat.pow_lt_pow_iff_right (a := 2) (by omega)).1
  have : ((2 ^ k : Nat) : Int) < ((2 ^ 64 : Nat) : Int) := by
    have e : ((2 ^ 64 : Nat) : Int) = 18446744073709551616 := rfl
    rw [e]; omega
  exact_mod_cast this

theorem Tz.unique {m a b : Int} {j k : Nat} (h : Tz m a j) (g : Tz m b k) (ha : a % 2 = 1) (hb : b % 2 = 1) : a = b ∧ j = k := by
  have key : ∀ {a b : Int} {j k : Nat}, Tz m a j → Tz m b k → a % 2 = 1 → j ≤ k → a = b ∧ j = k := by
    intro a b j k h g ha hjk
    obtain ⟨d, rfl⟩ := Nat.exists_eq_add_of_le hjk
    have e := h.eq.symm.trans g.eq
    rw [Nat.pow_add] at e
    have hp : ((2 ^ j : Nat) : Int) ≠ 0 := by
      have : (1 : Int) ≤ ((2 ^ j : Nat) : Int) := by exact_mod_cast Nat.one_le_two_pow
      omega
    have e2 : a = b * ((2 ^ d : Nat) : Int) := by
      apply Int.eq_of_mul_eq_mul_right hp
      rw [e]
      push_cast
      rw [Int.mul_comm ((2 : Int) ^ j), ← Int.mul_assoc]
    cases d with
    | zero => simp at e2; exact ⟨e2, rfl⟩
    | succ d =>
      rw [Nat.pow_succ] at e2
      exfalso
      push_cast at e2
      rw [← Int.mul_assoc] at e2
      omega
  rcases Nat.le_total j k with hjk | hjk
  · exact key h g ha hjk
  · obtain ⟨x, y⟩ := key g h hb hjk
    exact ⟨x.symm, y.symm⟩
end Go.Proofs.YtghblaphkbcgpaaDoor

/- The walks of the model's Unpack: a NaN, an infinity, a zero, a finite number. -/
namespace Go.Proofs.YtghblaphkbcgpaaDoor
open Go.RowKit

/-- The three forms, with the hidden bit h and the number q of exponents besides. -/
def Frm (f wd p t S D h q : Int) : Prop := (f = 1 ∧ wd = 16 ∧ p = 11 ∧ t = 15 ∧ S = 32768 ∧ D = 65536 ∧ h = 1024 ∧ q = 32) ∨ (f = 2 ∧ wd = 32 ∧ p = 24 ∧ t = 127 ∧ S = 2147483648 ∧ D = 4294967296 ∧ h = 8388608 ∧ q = 256) ∨ (f = 3 ∧ wd = 64 ∧ p = 53 ∧ t = 1023 ∧ S = 9223372036854775808 ∧ D = 18446744073709551616 ∧ h = 4503599627370496 ∧ q = 2048)

theorem Frm.form {f wd p t S D h q : Int} (hF : Frm f wd p t S D h q) : Form f wd p t S D := by
  rcases hF with ⟨rfl, rfl, rfl, rfl, rfl, rfl, _, _⟩ | ⟨rfl, rfl, rfl, rfl, rfl, rfl, _, _⟩ | ⟨rfl, rfl, rfl, rfl, rfl, rfl, _, _⟩
  · exact Or.inl ⟨rfl, rfl, rfl, rfl, rfl, rfl⟩
  · exact Or.inr (Or.inl ⟨rfl, rfl, rfl, rfl, rfl, rfl⟩)
  · exact Or.inr (Or.inr ⟨rfl, rfl, rfl, rfl, rfl, rfl⟩)

theorem are_yes {f wd p t S D : Int} (hF : Form f wd p t S D) (x : Int) (h0 : 0 ≤ x) (h1 : x < D) (w : World) :
    Calls Tryd.prog 18 #[.int .i64 f, .int .u64 x] w fun e w' => e = .returned (.bool true) ∧ w' = w := by
  have hD : D ≤ 18446744073709551616 := by rcases hF with ⟨_, _, _, _, _, rfl⟩ | ⟨_, _, _, _, _, rfl⟩ | ⟨_, _, _, _, _, rfl⟩ <;> decide
  have h := l1Are_any hF x h0 (by omega) w
  rw [Int.ediv_eq_zero_of_lt h0 h1] at h
  exact h

theorem below_one {w : World} (o : Obj) : Below w.heap.size w (w.alloc o) := (Below.refl _ _).alloc (Nat.le_refl _) _
theorem below_two {w : World} (o o' : Obj) : Below w.heap.size w ((w.alloc o).alloc o') := (below_one o).alloc (by simp) _

set_option maxHeartbeats 1000000 in
theorem sunpack_inf {f wd p t S D h q : Int} (hF : Frm f wd p t S D h q) (x : Int) (w : World) (h0 : 0 ≤ x) (h1 : x < D) (hX : x / h % q = 2 * t + 1) (hf : (x % h == 0) = true) :
    Calls Tryd.prog 8 #[.int .i64 f, .int .u64 x] w fun e w' => e = .returned (.agg #[.int .i64 2, .bool (x / S == 1), .int .i64 0, .int .u64 0]) ∧ Below w.heap.size w w' := by
  have hA := fun w => are_yes hF.form x h0 h1 w
  have hG := fun w => l1Form_any hF.form w
  rcases hF with ⟨rfl, rfl, rfl, rfl, rfl, rfl, rfl, rfl⟩ | ⟨rfl, rfl, rfl, rfl, rfl, rfl, rfl, rfl⟩ | ⟨rfl, rfl, rfl, rfl, rfl, rfl, rfl, rfl⟩
  all_goals
    clear h1
    go_enter Tryd.func8, Tryd.ntmps8
    go_wp2_with (first | (go_at_call 21; refine (hG _).mono ?_; rintro e w' ⟨rfl, rfl⟩) | (go_at_call 18; refine (hA _).mono ?_; rintro e w' ⟨rfl, rfl⟩))
    exact bodyPost_ret (v := .agg #[.int .i64 2, .bool _, .int .i64 0, .int .u64 0]) (by simp [results, Tryd.results8, go_sem]) rfl ⟨rfl, below_two _ _⟩

set_option maxHeartbeats 1000000 in
theorem sunpack_nan {f wd p t S D h q : Int} (hF : Frm f wd p t S D h q) (x : Int) (w : World) (h0 : 0 ≤ x) (h1 : x < D) (hX : x / h % q = 2 * t + 1) (hf : (x % h == 0) = false) :
    Calls Tryd.prog 8 #[.int .i64 f, .int .u64 x] w fun e w' => e = .returned (.agg #[.int .i64 3, .bool false, .int .i64 0, .int .u64 0]) ∧ Below w.heap.size w w' := by
  have hA := fun w => are_yes hF.form x h0 h1 w
  have hG := fun w => l1Form_any hF.form w
  rcases hF with ⟨rfl, rfl, rfl, rfl, rfl, rfl, rfl, rfl⟩ | ⟨rfl, rfl, rfl, rfl, rfl, rfl, rfl, rfl⟩ | ⟨rfl, rfl, rfl, rfl, rfl, rfl, rfl, rfl⟩
  all_goals
    clear h1
    go_enter Tryd.func8, Tryd.ntmps8
    go_wp2_with (first | (go_at_call 21; refine (hG _).mono ?_; rintro e w' ⟨rfl, rfl⟩) | (go_at_call 18; refine (hA _).mono ?_; rintro e w' ⟨rfl, rfl⟩))
    exact bodyPost_ret (v := .agg #[.int .i64 3, .bool false, .int .i64 0, .int .u64 0]) (by simp [results, Tryd.results8, go_sem]) rfl ⟨rfl, below_two _ _⟩

set_option maxHeartbeats 1000000 in
theorem sunpack_zero {f wd p t S D h q : Int} (hF : Frm f wd p t S D h q) (x : Int) (w : World) (h0 : 0 ≤ x) (h1 : x < D) (hX : x / h % q = 0) (hf : (x % h == 0) = true) :
    Calls Tryd.prog 8 #[.int .i64 f, .int .u64 x] w fun e w' => e = .returned (.agg #[.int .i64 0, .bool (x / S == 1), .int .i64 0, .int .u64 0]) ∧ Below w.heap.size w w' := by
  have hA := fun w => are_yes hF.form x h0 h1 w
  have hG := fun w => l1Form_any hF.form w
  rcases hF with ⟨rfl, rfl, rfl, rfl, rfl, rfl, rfl, rfl⟩ | ⟨rfl, rfl, rfl, rfl, rfl, rfl, rfl, rfl⟩ | ⟨rfl, rfl, rfl, rfl, rfl, rfl, rfl, rfl⟩
  all_goals
    clear h1
    go_enter Tryd.func8, Tryd.ntmps8
    go_wp2_with (first | (go_at_call 21; refine (hG _).mono ?_; rintro e w' ⟨rfl, rfl⟩) | (go_at_call 18; refine (hA _).mono ?_; rintro e w' ⟨rfl, rfl⟩))
    exact bodyPost_ret (v := .agg #[.int .i64 0, .bool _, .int .i64 0, .int .u64 0]) (by simp [results, Tryd.results8, go_sem]) rfl ⟨rfl, below_two _ _⟩
end Go.Proofs.YtghblaphkbcgpaaDoor
