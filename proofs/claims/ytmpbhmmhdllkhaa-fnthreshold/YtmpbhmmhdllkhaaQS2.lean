/- The model's whole numbers: those made of a word, their low words, their bits, and which of two is greater. -/
import Derived.Test.YtmpbhmmhdllkhaaQS1
namespace Go.Proofs.Ytmpbhmmhdllkhaa.Q
open Go.RowKit

theorem below_one {w : World} (o : Obj) : Below w.heap.size w (w.alloc o) := (Below.refl _ _).alloc (Nat.le_refl _) _

theorem bstep {w w1 w2 : World} (h1 : Below w.heap.size w w1) (h2 : Below w1.heap.size w1 w2) : Below w.heap.size w w2 := h1.trans (h2.mono h1.size)

theorem wd_zero (N : Nat) : wd N 0 = N % 4294967296 := by simp [wd]
theorem wd_one (N : Nat) : wd N 1 = N / 4294967296 % 4294967296 := by simp [wd]

theorem hol_two (w : World) (U : Nat) (a b : Int) (hU : U < 18446744073709551616) (ha : a = ((U % 4294967296 : Nat) : Int)) (hb : b = ((U / 4294967296 : Nat) : Int)) :
    Hol 0 (w.alloc (.cells #[.int .u32 a, .int .u32 b] 48)) (.slice (some ⟨w.heap.size, 0, none⟩) 2 2) 2 U := by
  subst ha hb
  refine ⟨by omega, by simp [wds], Or.inr ⟨w.heap.size, 2, _, rfl, Nat.zero_le _, heap_alloc_new w _, Nat.le_refl _, by decide, rfl, ?_⟩⟩
  have e : U / 4294967296 % 4294967296 = U / 4294967296 := Nat.mod_eq_of_lt (by omega)
  simp [wds, List.range_succ, wd_zero, wd_one, e]

theorem nat_any (U : Nat) (hU : U < 18446744073709551616) (w : World) :
    Calls Try.prog 16 #[.int .u64 (U : Int)] w fun e w' => Below w.heap.size w w' ∧ ∃ v, e = .returned v ∧ Nt w' v 2 U := by
  go_enter Try.func16, Try.ntmps16
  go_wp2_with (go_at_call 22; refine (trim_any (hol_two w U _ _ hU (by omega) (by omega)) (by decide)).mono ?_; rintro e w' ⟨rfl, v, rfl, hv⟩)
  go_ret
  exact ⟨below_one _, _, rfl, hv⟩

/-- How many bits a number has. -/
def Bl (N L : Nat) : Prop := (N = 0 ∧ L = 0) ∨ (0 < L ∧ 2 ^ (L - 1) ≤ N ∧ N < 2 ^ L)

theorem bl_of {N n j : Nat} (_hN : N < 4294967296 ^ (n + 1)) (ht : 4294967296 ^ n ≤ N) (h0 : N / 4294967296 ^ n / 2 ^ j = 0) (h1 : j = 0 ∨ 0 < N / 4294967296 ^ n / 2 ^ (j - 1)) : Bl N (32 * n + j) := by
  have hp := pow_pos' n
  have e32 : 4294967296 ^ n = 2 ^ (32 * n) := by rw [Nat.pow_mul]
  rw [e32] at hp ht h0 h1
  rw [Nat.div_div_eq_div_mul, ← Nat.pow_add] at h0 h1
  have hlt : N < 2 ^ (32 * n + j) := (Nat.div_eq_zero_iff_lt (Nat.pow_pos (by decide))).1 h0
  cases j with
  | zero => exact absurd hlt (by simpa using ht)
  | succ j =>
    refine Or.inr ⟨by omega, ?_, hlt⟩
    have : 0 < N / 2 ^ (32 * n + j) := by rcases h1 with h | h; cases h; exact h
    have := Nat.div_pos_iff.1 this
    exact this.2

theorem wd_eq {A k : Nat} : A / 4294967296 ^ k = A / 4294967296 ^ (k + 1) * 4294967296 + wd A k := by
  unfold wd
  rw [Nat.pow_succ, ← Nat.div_div_eq_div_mul]
  omega

theorem cmp_lt {A B k : Nat} (h : A / 4294967296 ^ (k + 1) = B / 4294967296 ^ (k + 1)) (hw : wd A k < wd B k) : A < B := by
  have ha := wd_eq (A := A) (k := k)
  have hb := wd_eq (A := B) (k := k)
  rcases Nat.lt_or_ge A B with h1 | h1
  · exact h1
  · have := Nat.div_le_div_right (c := 4294967296 ^ k) h1
    omega

theorem cmp_step {A B k : Nat} (h : A / 4294967296 ^ (k + 1) = B / 4294967296 ^ (k + 1)) (hw : wd A k = wd B k) : A / 4294967296 ^ k = B / 4294967296 ^ k := by
  rw [wd_eq (A := A), wd_eq (A := B), h, hw]

theorem len_lt {A B n k : Nat} (hA : A < 4294967296 ^ n) (hB : 4294967296 ^ (k - 1) ≤ B) (h : n < k) : A < B :=
  Nat.lt_of_lt_of_le hA (Nat.le_trans (Nat.pow_le_pow_right (by decide) (by omega)) hB)

/-- Which of two is greater, as a number. -/
def cmpOf (A B : Nat) : Int := if A < B then -1 else if A = B then 0 else 1

set_option maxHeartbeats 1000000 in
theorem cmp_any {w : World} {v u : Value} {m A B : Nat} (ha : Nt w v m A) (hb : Nt w u m B) (hm : m ≤ 1000000) :
    Calls Try.prog 17 #[v, u] w fun e w' => e = .returned (.int .i64 (cmpOf A B)) ∧ Below w.heap.size w w' := by
  obtain ⟨n, hn, hh, ht⟩ := ha
  obtain ⟨k, hk, hh2, ht2⟩ := hb
  obtain ⟨ao, cap, rfl, hcap, hcell⟩ := hh.shape
  obtain ⟨bo, cap2, rfl, hcap2, hcell2⟩ := hh2.shape
  have hlt := hh.1
  have hlt2 := hh2.1
  clear hh hh2
  rcases Nat.lt_trichotomy n k with h | rfl | h
  · have hAB : A < B := len_lt hlt (by rcases ht2 with h | h; omega; exact h) h
    have e : cmpOf A B = -1 := by simp [cmpOf, hAB]
    rw [e]
    clear hcell hcell2 hlt hlt2 ht ht2 hAB e
    have h1 : ((n : Int) = k) = False := by simp; omega
    go_enter Try.func17, Try.ntmps17
    go_wp2
    go_ret
    exact ⟨rfl, Below.refl _ _⟩
  · have HC : Hid (∀ k, k < n → ∃ g, ao = some ⟨g, 0, none⟩ ∧ 0 ≤ g ∧ g < w.heap.size ∧ w.cell? ⟨g, k, none⟩ = some (.int .u32 ((wd A k : Nat) : Int))) := hcell
    have HC2 : Hid (∀ k, k < n → ∃ g, bo = some ⟨g, 0, none⟩ ∧ 0 ≤ g ∧ g < w.heap.size ∧ w.cell? ⟨g, k, none⟩ = some (.int .u32 ((wd B k : Nat) : Int))) := hcell2
    have HS : Hid (A / 4294967296 ^ n = B / 4294967296 ^ n) := by show A / _ = B / _; rw [Nat.div_eq_of_lt hlt, Nat.div_eq_of_lt hlt2]
    clear hcell hcell2 hlt hlt2 ht ht2
    go_enter Try.func17, Try.ntmps17
    go_wp2
    go_loopw [5] (fun i wr => ∃ (k : Nat) (x : Int), i = .int .i64 x ∧ x = (k : Int) - 1 ∧ k ≤ n ∧ Hid (A / 4294967296 ^ k = B / 4294967296 ^ k) ∧ Below w.heap.size w wr) (fun i _ => (intOf i + 1).toNat)
    case atStart => exact ⟨n, _, rfl, rfl, Nat.le_refl _, HS, Below.refl _ _⟩
    case round =>
      obtain ⟨k, x, rfl, hx, hkn, hS, hbl⟩ := hrel
      cases k with
      | zero =>
        obtain rfl : x = -1 := by omega
        clear hx
        have e : Hid (cmpOf A B = 0) := by have := hS.out; simp at this; show cmpOf A B = 0; simp [cmpOf, this]
        have HL : Hid (Below w.heap.size w wr) := hbl
        clear hbl
        go_wp2
        go_ret
        exact ⟨by rw [e.out]; rfl, HL.out⟩
      | succ j =>
        obtain rfl : x = (j : Int) := by omega
        clear hx
        obtain ⟨g, rfl, _, hg, hc⟩ := HC.out j (by omega)
        obtain ⟨g2, rfl, _, hg2, hc2⟩ := HC2.out j (by omega)
        have hc' : wr.cell? ⟨g, j, none⟩ = some (.int .u32 ((wd A j : Nat) : Int)) := (hbl.cell (by exact hg)).trans hc
        have hc2' : wr.cell? ⟨g2, j, none⟩ = some (.int .u32 ((wd B j : Nat) : Int)) := (hbl.cell (by exact hg2)).trans hc2
        have HL : Hid (Below w.heap.size w wr) := hbl
        clear hbl hc hc2 HC HC2
        rcases Nat.lt_trichotomy (wd A j) (wd B j) with hw | hw | hw
        · have e : Hid (cmpOf A B = -1) := by have := cmp_lt hS.out hw; show cmpOf A B = -1; simp [cmpOf, this]
          have h1 : ((wd A j : Nat) : Int) < ((wd B j : Nat) : Int) := by omega
          have h2 : ((((wd A j : Nat) : Int) != ((wd B j : Nat) : Int)) = true) := by simp; omega
          go_wp2
          go_quiet (fail)
          go_wp2
          go_quiet (fail)
          go_wp2
          go_ret
          exact ⟨by rw [e.out]; rfl, below_drewN (below_drewN HL.out _) _⟩
        · have h2 : ((((wd A j : Nat) : Int) != ((wd B j : Nat) : Int)) = false) := by simp; omega
          have hS2 : Hid (A / 4294967296 ^ j = B / 4294967296 ^ j) := cmp_step hS.out hw
          clear hw
          go_wp2
          go_quiet (fail)
          go_wp2
          go_roundw
          case rel => exact ⟨j, _, rfl, rfl, by omega, hS2, below_drewN HL.out _⟩
          case measure => simp [intOf]
        · have e : Hid (cmpOf A B = 1) := by have := cmp_lt hS.out.symm hw; show cmpOf A B = 1; simp [cmpOf]; omega
          have h1 : ¬ ((wd A j : Nat) : Int) < ((wd B j : Nat) : Int) := by omega
          have h2 : ((((wd A j : Nat) : Int) != ((wd B j : Nat) : Int)) = true) := by simp; omega
          go_wp2
          go_quiet (fail)
          go_wp2
          go_quiet (fail)
          go_wp2
          go_ret
          exact ⟨by rw [e.out]; rfl, below_drewN (below_drewN HL.out _) _⟩
  · have hAB : B < A := len_lt hlt2 (by rcases ht with h | h; omega; exact h) h
    have e : cmpOf A B = 1 := by simp [cmpOf]; omega
    rw [e]
    clear hcell hcell2 hlt hlt2 ht ht2 hAB e
    go_enter Try.func17, Try.ntmps17
    go_wp2
    go_ret
    exact ⟨rfl, Below.refl _ _⟩
end Go.Proofs.Ytmpbhmmhdllkhaa.Q
