/- The model's whole numbers: those made of a word, their low words, their bits, and which of two is greater. -/
import Derived.Test.YtghblaphkbcgpaaDoorHS1
namespace Go.Proofs.YtghblaphkbcgpaaDoor
open Go.RowKit

theorem wd_zero (N : Nat) : wd N 0 = N % 4294967296 := by simp [wd]
theorem wd_one (N : Nat) : wd N 1 = N / 4294967296 % 4294967296 := by simp [wd]

theorem hol_two (w : World) (U : Nat) (a b : Int) (hU : U < 18446744073709551616) (ha : a = ((U % 4294967296 : Nat) : Int)) (hb : b = ((U / 4294967296 : Nat) : Int)) :
    Hol 0 (w.alloc (.cells #[.int .u32 a, .int .u32 b] 50)) (.slice (some ⟨w.heap.size, 0, none⟩) 2 2) 2 U := by
  subst ha hb
  refine ⟨by omega, by simp [wds], Or.inr ⟨w.heap.size, 2, _, rfl, Nat.zero_le _, heap_alloc_new w _, Nat.le_refl _, by decide, rfl, ?_⟩⟩
  have e : U / 4294967296 % 4294967296 = U / 4294967296 := Nat.mod_eq_of_lt (by omega)
  simp [wds, List.range_succ, wd_zero, wd_one, e]

theorem nat_any (U : Nat) (hU : U < 18446744073709551616) (w : World) :
    Calls Tryd.prog 12 #[.int .u64 (U : Int)] w fun e w' => Below w.heap.size w w' ∧ ∃ v, e = .returned v ∧ Nt w' v 2 U := by
  go_enter Tryd.func12, Tryd.ntmps12
  go_wp2_with (go_at_call 26; refine (trim_any (hol_two w U _ _ hU (by omega) (by omega)) (by decide)).mono ?_; rintro e w' ⟨rfl, v, rfl, hv⟩)
  go_ret
  exact ⟨below_one _, _, rfl, hv⟩

theorem low_any {w : World} {v : Value} {m N : Nat} (h : Nt w v m N) (hN : N < 18446744073709551616) :
    Calls Tryd.prog 33 #[v] w fun e w' => e = .returned (.int .u64 (N : Int)) ∧ w' = w := by
  obtain ⟨n, hn, hh, ht⟩ := h
  obtain ⟨ao, cap, rfl, hcap, hcell⟩ := hh.shape
  have hlt := hh.1
  clear hh
  match n, ht, hcell, hlt with
  | 0, _, _, hlt =>
    obtain rfl : N = 0 := by simpa using hlt
    go_enter Tryd.func33, Tryd.ntmps33
    go_wp2
    go_ret
    exact ⟨rfl, rfl⟩
  | 1, _, hcell, hlt =>
    obtain ⟨g, rfl, _, hg, hc⟩ := hcell 0 (by decide)
    have e : wd N 0 = N := by rw [wd_zero]; exact Nat.mod_eq_of_lt (by simpa using hlt)
    rw [e] at hc
    clear hcell ht
    go_enter Tryd.func33, Tryd.ntmps33
    go_wp2
    go_ret
    exact ⟨rfl, rfl⟩
  | n + 2, ht, hcell, hlt =>
    obtain ⟨g, rfl, _, hg, hc⟩ := hcell 0 (by omega)
    obtain ⟨g', hg', _, _, hc1⟩ := hcell 1 (by omega)
    cases hg'
    have e : ((wd N 0 : Nat) : Int) + ((wd N 1 : Nat) : Int) * 4294967296 = N := by
      rw [wd_zero, wd_one, Nat.mod_eq_of_lt (a := N / 4294967296) (by omega)]; omega
    have h0 := wd_lt N 0
    have h1 := wd_lt N 1
    have HE : Hid (((wd N 0 : Nat) : Int) + ((wd N 1 : Nat) : Int) * 4294967296 = N) := e
    clear hcell ht hlt e
    go_enter Tryd.func33, Tryd.ntmps33
    go_wp2
    go_ret
    refine ⟨?_, rfl⟩
    rw [← HE.out]
    rfl

theorem bit_any {w : World} {v : Value} {m N : Nat} (h : Nt w v m N) :
    Calls Tryd.prog 30 #[v, .int .i64 0] w fun e w' => e = .returned (.bool (N % 2 == 1)) ∧ w' = w := by
  obtain ⟨n, hn, hh, ht⟩ := h
  obtain ⟨ao, cap, rfl, hcap, hcell⟩ := hh.shape
  have hlt := hh.1
  clear hh
  match n, ht, hcell, hlt with
  | 0, _, _, hlt =>
    obtain rfl : N = 0 := by simpa using hlt
    go_enter Tryd.func30, Tryd.ntmps30
    go_wp2
    go_ret
    exact ⟨rfl, rfl⟩
  | n + 1, ht, hcell, hlt =>
    obtain ⟨g, rfl, _, hg, hc⟩ := hcell 0 (by omega)
    have h0 := wd_lt N 0
    have HE : Hid ((((wd N 0 : Nat) : Int) % 2 == 1) = (N % 2 == 1)) := by
      rw [wd_zero]
      have : ((N % 4294967296 : Nat) : Int) % 2 = ((N % 2 : Nat) : Int) := by omega
      rw [this]
      rcases Nat.mod_two_eq_zero_or_one N with h | h <;> rw [h] <;> rfl
    clear hcell ht hlt
    go_enter Tryd.func30, Tryd.ntmps30
    go_wp2
    go_ret
    refine ⟨?_, rfl⟩
    rw [← HE.out]
    rfl

/-- How many bits a number has. -/
def Bl (N L : Nat) : Prop := (N = 0 ∧ L = 0) ∨ (0 < L ∧ 2 ^ (L - 1) ≤ N ∧ N < 2 ^ L)

theorem bl_of {N n j : Nat} (_hN : N < 4294967296 ^ (n + 1)) (ht : 4294967296 ^ n ≤ N) (h0 : N / 4294967296 ^ n / 2 ^ j = 0) (h1 : j = 0 ∨ 0 < N / 4294967296 ^ n / 2 ^ (j - 1)) : Bl N (32 * n + j) := by
  have hp := pow_pos' n
  have e32 : 4294967296 ^ n = 2 ^ (32 * n) := by rw [Nat.pow_mul]
  rw [e32] at hp ht h0 h1
  rw [Nat.div_div_eq_div_mul, ← Nat.pow_add] at h0 h1
  have hlt : N < 2 ^ (32 * n + j) := (Nat.div_eq_zero_iff_lt (Nat.pow_pos (by decide))).1 h0
  cases j with
  | zero => exact absurd hlt (by simpa using ht)
  | succ j =>
    refine Or.inr ⟨by omega, ?_, hlt⟩
    have : 0 < N / 2 ^ (32 * n + j) := by rcases h1 with h | h; cases h; exact h
    have := Nat.div_pos_iff.1 this
    exact this.2

set_option maxHeartbeats 400000 in
theorem bits_any {w : World} {v : Value} {m N : Nat} (h : Nt w v m N) (hm : m ≤ 1000000) :
    Calls Tryd.prog 22 #[v] w fun e w' => ∃ L : Nat, e = .returned (.int .i64 (L : Int)) ∧ w' = w ∧ Bl N L := by
  obtain ⟨n, hn, hh, ht⟩ := h
  obtain ⟨ao, cap, rfl, hcap, hcell⟩ := hh.shape
  have hlt := hh.1
  clear hh
  match n, ht, hcell, hlt with
  | 0, _, _, hlt =>
    obtain rfl : N = 0 := by simpa using hlt
    go_enter Tryd.func22, Tryd.ntmps22
    go_wp2
    go_ret
    exact ⟨0, rfl, rfl, Or.inl ⟨rfl, rfl⟩⟩
  | n + 1, ht, hcell, hlt =>
    have ht' : 4294967296 ^ n ≤ N := by rcases ht with h | h; cases h; exact h
    obtain ⟨g, rfl, _, hg, hc⟩ := hcell n (by omega)
    rw [wd_top hlt] at hc
    have hT : N / 4294967296 ^ n < 4294967296 := by have := wd_lt N n; rwa [wd_top hlt] at this
    have HB : Hid (∀ j, N / 4294967296 ^ n / 2 ^ j = 0 → (j = 0 ∨ 0 < N / 4294967296 ^ n / 2 ^ (j - 1)) → Bl N (32 * n + j)) := fun j h0 h1 => bl_of hlt ht' h0 h1
    generalize N / 4294967296 ^ n = T at *
    clear hcell ht hlt ht'
    go_enter Tryd.func22, Tryd.ntmps22
    go_wp2
    go_loop [3, 4] (fun c x => ∃ (j X : Nat), x = .int .u32 (X : Int) ∧ c = .int .i64 (32 * (n : Int) + j) ∧ Hid (X = T / 2 ^ j) ∧ j ≤ 32 ∧ Hid (j = 0 ∨ 0 < T / 2 ^ (j - 1))) (fun _ x => (intOf x).toNat)
    case atStart => exact ⟨0, T, rfl, by simp, by simp [Hid], by omega, Or.inl rfl⟩
    case round =>
      obtain ⟨j, X, rfl, rfl, hX, hj, hz⟩ := hrel
      have hXT : X < 4294967296 := by rw [hX.out]; exact Nat.lt_of_le_of_lt (Nat.div_le_self _ _) hT
      by_cases h0 : X = 0
      · subst h0
        have HF : Hid (Bl N (32 * n + j)) := HB.out j hX.out.symm hz.out
        go_wp2
        go_ret
        exact ⟨32 * n + j, by go_num, rfl, HF.out⟩
      · have h1 : 0 < X := by omega
        have hj2 : Hid (j < 32) := by
          rcases Nat.lt_or_ge j 32 with h | h
          · exact h
          · exfalso
            obtain rfl : j = 32 := by omega
            have := hX.out
            rw [Nat.div_eq_of_lt (by simpa using hT)] at this
            omega
        have hX2 : Hid (X / 2 = T / 2 ^ (j + 1)) := by
          show X / 2 = T / 2 ^ (j + 1)
          rw [hX.out, Nat.div_div_eq_div_mul, ← Nat.pow_succ]
        have hz2 : Hid (j + 1 = 0 ∨ 0 < T / 2 ^ (j + 1 - 1)) := Or.inr (by rw [Nat.add_sub_cancel, ← hX.out]; exact h1)
        go_wp2
        go_round
        case rel => exact ⟨j + 1, X / 2, by go_num, by go_num, hX2, hj2.out, hz2⟩
        case measure => simp [intOf]; omega

theorem wd_eq {A k : Nat} : A / 4294967296 ^ k = A / 4294967296 ^ (k + 1) * 4294967296 + wd A k := by
  unfold wd
  rw [Nat.pow_succ, ← Nat.div_div_eq_div_mul]
  omega

theorem cmp_lt {A B k : Nat} (h : A / 4294967296 ^ (k + 1) = B / 4294967296 ^ (k + 1)) (hw : wd A k < wd B k) : A < B := by
  have ha := wd_eq (A := A) (k := k)
  have hb := wd_eq (A := B) (k := k)
  rcases Nat.lt_or_ge A B with h1 | h1
  · exact h1
  · have := Nat.div_le_div_right (c := 4294967296 ^ k) h1
    omega

theorem cmp_step {A B k : Nat} (h : A / 4294967296 ^ (k + 1) = B / 4294967296 ^ (k + 1)) (hw : wd A k = wd B k) : A / 4294967296 ^ k = B / 4294967296 ^ k := by
  rw [wd_eq (A := A), wd_eq (A := B), h, hw]

theorem len_lt {A B n k : Nat} (hA : A < 4294967296 ^ n) (hB : 4294967296 ^ (k - 1) ≤ B) (h : n < k) : A < B :=
  Nat.lt_of_lt_of_le hA (Nat.le_trans (Nat.pow_le_pow_right (by decide) (by omega)) hB)

/-- Which of two is greater, as a number. -/
def cmpOf (A B : Nat) : Int := if A < B then -1 else if A = B then 0 else 1

set_option maxHeartbeats 1000000 in
theorem cmp_any {w : World} {v u : Value} {m A B : Nat} (ha : Nt w v m A) (hb : Nt w u m B) (hm : m ≤ 1000000) :
    Calls Tryd.prog 24 #[v, u] w fun e w' => e = .returned (.int .i64 (cmpOf A B)) ∧ Below w.heap.size w w' := by
  obtain ⟨n, hn, hh, ht⟩ := ha
  obtain ⟨k, hk, hh2, ht2⟩ := hb
  obtain ⟨ao, cap, rfl, hcap, hcell⟩ := hh.shape
  obtain ⟨bo, cap2, rfl, hcap2, hcell2⟩ := hh2.shape
  have hlt := hh.1
  have hlt2 := hh2.1
  clear hh hh2
  rcases Nat.lt_trichotomy n k with h | rfl | h
  · have hAB : A < B := len_lt hlt (by rcases ht2 with h | h; omega; exact h) h
    have e : cmpOf A B = -1 := by simp [cmpOf, hAB]
    rw [e]
    clear hcell hcell2 hlt hlt2 ht ht2 hAB e
    have h1 : ((n : Int) = k) = False := by simp; omega
    go_enter Tryd.func24, Tryd.ntmps24
    go_wp2
    go_ret
    exact ⟨rfl, Below.refl _ _⟩
  · have HC : Hid (∀ k, k < n → ∃ g, ao = some ⟨g, 0, none⟩ ∧ 0 ≤ g ∧ g < w.heap.size ∧ w.cell? ⟨g, k, none⟩ = some (.int .u32 ((wd A k : Nat) : Int))) := hcell
    have HC2 : Hid (∀ k, k < n → ∃ g, bo = some ⟨g, 0, none⟩ ∧ 0 ≤ g ∧ g < w.heap.size ∧ w.cell? ⟨g, k, none⟩ = some (.int .u32 ((wd B k : Nat) : Int))) := hcell2
    have HS : Hid (A / 4294967296 ^ n = B / 4294967296 ^ n) := by show A / _ = B / _; rw [Nat.div_eq_of_lt hlt, Nat.div_eq_of_lt hlt2]
    clear hcell hcell2 hlt hlt2 ht ht2
    go_enter Tryd.func24, Tryd.ntmps24
    go_wp2
    go_loopw [5] (fun i wr => ∃ (k : Nat) (x : Int), i = .int .i64 x ∧ x = (k : Int) - 1 ∧ k ≤ n ∧ Hid (A / 4294967296 ^ k = B / 4294967296 ^ k) ∧ Below w.heap.size w wr) (fun i _ => (intOf i + 1).toNat)
    case atStart => exact ⟨n, _, rfl, rfl, Nat.le_refl _, HS, Below.refl _ _⟩
    case round =>
      obtain ⟨k, x, rfl, hx, hkn, hS, hbl⟩ := hrel
      cases k with
      | zero =>
        obtain rfl : x = -1 := by omega
        clear hx
        have e : Hid (cmpOf A B = 0) := by have := hS.out; simp at this; show cmpOf A B = 0; simp [cmpOf, this]
        have HL : Hid (Below w.heap.size w wr) := hbl
        clear hbl
        go_wp2
        go_ret
        exact ⟨by rw [e.out]; rfl, HL.out⟩
      | succ j =>
        obtain rfl : x = (j : Int) := by omega
        clear hx
        obtain ⟨g, rfl, _, hg, hc⟩ := HC.out j (by omega)
        obtain ⟨g2, rfl, _, hg2, hc2⟩ := HC2.out j (by omega)
        have hc' : wr.cell? ⟨g, j, none⟩ = some (.int .u32 ((wd A j : Nat) : Int)) := (hbl.cell (by exact hg)).trans hc
        have hc2' : wr.cell? ⟨g2, j, none⟩ = some (.int .u32 ((wd B j : Nat) : Int)) := (hbl.cell (by exact hg2)).trans hc2
        have HL : Hid (Below w.heap.size w wr) := hbl
        clear hbl hc hc2 HC HC2
        rcases Nat.lt_trichotomy (wd A j) (wd B j) with hw | hw | hw
        · have e : Hid (cmpOf A B = -1) := by have := cmp_lt hS.out hw; show cmpOf A B = -1; simp [cmpOf, this]
          have h1 : ((wd A j : Nat) : Int) < ((wd B j : Nat) : Int) := by omega
          have h2 : ((((wd A j : Nat) : Int) != ((wd B j : Nat) : Int)) = true) := by simp; omega
          go_wp2
          go_quiet (fail)
          go_wp2
          go_quiet (fail)
          go_wp2
          go_ret
          exact ⟨by rw [e.out]; rfl, below_drewN (below_drewN HL.out _) _⟩
        · have h2 : ((((wd A j : Nat) : Int) != ((wd B j : Nat) : Int)) = false) := by simp; omega
          have hS2 : Hid (A / 4294967296 ^ j = B / 4294967296 ^ j) := cmp_step hS.out hw
          clear hw
          go_wp2
          go_quiet (fail)
          go_wp2
          go_roundw
          case rel => exact ⟨j, _, rfl, rfl, by omega, hS2, below_drewN HL.out _⟩
          case measure => simp [intOf]
        · have e : Hid (cmpOf A B = 1) := by have := cmp_lt hS.out.symm hw; show cmpOf A B = 1; simp [cmpOf]; omega
          have h1 : ¬ ((wd A j : Nat) : Int) < ((wd B j : Nat) : Int) := by omega
          have h2 : ((((wd A j : Nat) : Int) != ((wd B j : Nat) : Int)) = true) := by simp; omega
          go_wp2
          go_quiet (fail)
          go_wp2
          go_quiet (fail)
          go_wp2
          go_ret
          exact ⟨by rw [e.out]; rfl, below_drewN (below_drewN HL.out _) _⟩
  · have hAB : B < A := len_lt hlt2 (by rcases ht with h | h; omega; exact h) h
    have e : cmpOf A B = 1 := by simp [cmpOf]; omega
    rw [e]
    clear hcell hcell2 hlt hlt2 ht ht2 hAB e
    go_enter Tryd.func24, Tryd.ntmps24
    go_wp2
    go_ret
    exact ⟨rfl, Below.refl _ _⟩
end Go.Proofs.YtghblaphkbcgpaaDoor

/- Rounding a whole number times a power of two into a form: a plain function of numbers, and its facts. Nothing of the program stands here. -/
namespace Go.Proofs.YtghblaphkbcgpaaDoor

/-- How many bits a number has. -/
def blen (N : Nat) : Nat := if N = 0 then 0 else Nat.log2 N + 1

theorem bl_blen (N : Nat) : Bl N (blen N) := by
  unfold blen
  by_cases h : N = 0
  · simp [h, Bl]
  · rw [if_neg h]
    exact Or.inr ⟨by omega, by simpa using Nat.log2_self_le h, Nat.lt_log2_self⟩

theorem Bl.eq {N L : Nat} (h : Bl N L) : L = blen N := by
  have h2 := bl_blen N
  rcases h with ⟨rfl, rfl⟩ | ⟨h0, h1, h3⟩
  · simp [blen]
  · rcases h2 with ⟨rfl, _⟩ | ⟨k0, k1, k3⟩
    · have := Nat.pow_pos (n := L - 1) (show 0 < 2 by decide)
      omega
    · have a1 : L - 1 < blen N := (Nat.pow_lt_pow_iff_right (a := 2) (by decide)).1 (Nat.lt_of_le_of_lt h1 k3)
      have a2 : blen N - 1 < L := (Nat.pow_lt_pow_iff_right (a := 2) (by decide)).1 (Nat.lt_of_le_of_lt k1 h3)
      omega

theorem blen_pos {N : Nat} (h : 0 < N) : 0 < blen N ∧ 2 ^ (blen N - 1) ≤ N ∧ N < 2 ^ blen N := by
  rcases bl_blen N with ⟨rfl, _⟩ | h
  · omega
  · exact h

theorem blen_le {N L : Nat} (h : N < 2 ^ L) : blen N ≤ L := by
  rcases Nat.eq_zero_or_pos N with rfl | h0
  · simp [blen]
  · obtain ⟨h1, h2, _⟩ := blen_pos h0
    have := (Nat.pow_lt_pow_iff_right (a := 2) (by decide)).1 (Nat.lt_of_le_of_lt h2 h)
    omega

theorem blen_at {N L : Nat} (h0 : 2 ^ L ≤ N) (h1 : N < 2 ^ (L + 1)) : blen N = L + 1 :=
  (Bl.eq (Or.inr ⟨by omega, by simpa using h0, h1⟩)).symm

/-- Whether a size is rounded away from 0. -/
def upOf (mode : Int) (neg odd : Bool) (half : Int) (some : Bool) : Bool :=
  if mode = 1 then decide (0 < half) || (decide (half = 0) && odd) else if mode = 2 then decide (0 ≤ half) else if mode = 4 then some && !neg else if mode = 5 then some && neg else false

/-- A number cut at the place d. -/
def mOf (N : Nat) (d : Int) : Nat := if d ≤ 0 then N * 2 ^ (-d).toNat else N / 2 ^ d.toNat
/-- What is cut off. -/
def rOf (N : Nat) (d : Int) : Nat := if d ≤ 0 then 0 else N % 2 ^ d.toNat
/-- What is cut off against a half of the last place. -/
def hOf (N : Nat) (d : Int) (more : Bool) : Int := if d ≤ 0 then -1 else if (cmpOf (rOf N d) (2 ^ (d.toNat - 1)) = 0 ∧ more = true) then 1 else cmpOf (rOf N d) (2 ^ (d.toNat - 1))
/-- Whether anything is cut off. -/
def sOf (N : Nat) (d : Int) (more : Bool) : Bool := more || decide (0 < rOf N d)
/-- The exponent of the last place. -/
def uOf (p t e : Int) (N : Nat) : Int := (if e + blen N - 1 < 1 - t then 1 - t else e + blen N - 1) - p + 1
/-- The number of last places. -/
def kOf (mode : Int) (neg : Bool) (N : Nat) (d : Int) (more : Bool) : Nat := mOf N d + (if upOf mode neg (mOf N d % 2 == 1) (hOf N d more) (sOf N d more) then 1 else 0)
/-- The flags where nothing is too great. -/
def fOf (t e : Int) (N : Nat) (d : Int) (more : Bool) : Int := if sOf N d more then (if e + blen N - 1 < 1 - t then 3 else 1) else 0
/-- The bits without their sign, where nothing is too great. -/
def zOf (p t h mode e : Int) (neg : Bool) (N : Nat) (more : Bool) : Int := (uOf p t e N - (2 - t - p)) * h + kOf mode neg N (uOf p t e N - e) more
/-- What is told where a number is too great. -/
def oOf (mode i : Int) (neg : Bool) : Int := if mode = 3 ∨ (mode = 4 ∧ neg = true) ∨ (mode = 5 ∧ neg = false) then i - 1 else i
def rndV (p t h S mode e : Int) (neg : Bool) (N : Nat) (more : Bool) : Int := (if (2 * t + 1) * h ≤ zOf p t h mode e neg N more then oOf mode ((2 * t + 1) * h) neg else zOf p t h mode e neg N more) + (if neg then S else 0)
def rndF (p t h mode e : Int) (neg : Bool) (N : Nat) (more : Bool) : Int := if (2 * t + 1) * h ≤ zOf p t h mode e neg N more then 5 else fOf t e N (uOf p t e N - e) more

theorem uOf_ge (p t e : Int) (N : Nat) : 2 - t - p ≤ uOf p t e N ∧ e + blen N - p ≤ uOf p t e N ∧ (e + blen N - 1 < 1 - t → uOf p t e N = 2 - t - p) ∧ (¬ e + blen N - 1 < 1 - t → uOf p t e N = e + blen N - p) := by
  unfold uOf
  split <;> omega

theorem mOf_lt {N : Nat} {d : Int} {P : Nat} (h : (blen N : Int) - d ≤ P) : mOf N d < 2 ^ P := by
  have hN : N < 2 ^ blen N := by
    rcases bl_blen N with ⟨rfl, h⟩ | h
    · exact Nat.pow_pos (by decide)
    · exact h.2.2
  unfold mOf
  split
  · refine Nat.lt_of_lt_of_le (Nat.mul_lt_mul_of_pos_right hN (Nat.pow_pos (by decide))) ?_
    rw [← Nat.pow_add]
    exact Nat.pow_le_pow_right (by decide) (by omega)
  · rw [Nat.div_lt_iff_lt_mul (Nat.pow_pos (by decide)), ← Nat.pow_add]
    exact Nat.lt_of_lt_of_le hN (Nat.pow_le_pow_right (by decide) (by omega))

theorem mOf_ge {N : Nat} {d : Int} {P : Nat} (h0 : 0 < N) (h : (P : Int) + 1 ≤ (blen N : Int) - d) : 2 ^ P ≤ mOf N d := by
  obtain ⟨hL, hN, _⟩ := blen_pos h0
  unfold mOf
  split
  · refine Nat.le_trans ?_ (Nat.mul_le_mul_right _ hN)
    rw [← Nat.pow_add]
    exact Nat.pow_le_pow_right (by decide) (by omega)
  · rw [Nat.le_div_iff_mul_le (Nat.pow_pos (by decide)), ← Nat.pow_add]
    exact Nat.le_trans (Nat.pow_le_pow_right (by decide) (by omega)) hN

theorem kOf_le (mode : Int) (neg : Bool) (N : Nat) (d : Int) (more : Bool) : mOf N d ≤ kOf mode neg N d more ∧ kOf mode neg N d more ≤ mOf N d + 1 := by
  unfold kOf
  split <;> omega
end Go.Proofs.YtghblaphkbcgpaaDoor

/- The walks of the model's Unpack at a finite number: the loop that takes out the twos. -/
namespace Go.Proofs.YtghblaphkbcgpaaDoor
open Go.RowKit

set_option maxHeartbeats 1000000 in
theorem sunpack_low {f wd p t S D h q : Int} (hF : Frm f wd p t S D h q) (x : Int) (w : World) (h0 : 0 ≤ x) (h1 : x < D) (hX : x / h % q = 0) (hf : (x % h == 0) = false) :
    Calls Tryd.prog 8 #[.int .i64 f, .int .u64 x] w fun e w' => ∃ (k : Nat) (man : Int), Tz (x % h) man k ∧ man % 2 = 1 ∧ e = .returned (.agg #[.int .i64 1, .bool (x / S == 1), .int .i64 (2 - t - p + k), .int .u64 man]) ∧ Below w.heap.size w w' := by
  have hA := fun w => are_yes hF.form x h0 h1 w
  have hG := fun w => l1Form_any hF.form w
  have hf0 : ¬ x % h = 0 := by simpa using hf
  rcases hF with ⟨rfl, rfl, rfl, rfl, rfl, rfl, rfl, rfl⟩ | ⟨rfl, rfl, rfl, rfl, rfl, rfl, rfl, rfl⟩ | ⟨rfl, rfl, rfl, rfl, rfl, rfl, rfl, rfl⟩
  · clear h1
    go_enter Tryd.func8, Tryd.ntmps8
    go_wp2_with (first | (go_at_call 21; refine (hG _).mono ?_; rintro e w' ⟨rfl, rfl⟩) | (go_at_call 18; refine (hA _).mono ?_; rintro e w' ⟨rfl, rfl⟩))
    clear hA hG
    go_loopw [101] (fun _ wr => ∃ (k : Nat) (man e : Int), Tz (x % 1024) man k ∧ e = 2 - 15 - 11 + k ∧ wr = (w.alloc (.cells #[.int .i64 0, .bool false, .int .i64 0, .int .u64 0] 31)).alloc (.cells #[.int .i64 1, .bool (x / 32768 == 1), .int .i64 e, .int .u64 man] 31))
      (fun _ wr => (intOf ((wr.cell? ⟨w.heap.size + 1, 3, none⟩).getD undef)).toNat)
    case atStart =>
      exact ⟨0, _, _, Tz.start (by omega), by simp, rfl⟩
    case round =>
      obtain ⟨k, man, e, ht, hk, rfl⟩ := hrel
      have hb := ht.le (by omega)
      have hp := ht.pos
      have HE : Hid (e = 2 - 15 - 11 + k) := hk
      have he1 : e < 100000 := by omega
      have he2 : -100000 < e := by omega
      clear hk
      by_cases he : man % 2 = 0
      · go_wp2
        go_roundw
        case rel => exact ⟨k + 1, _, _, ht.step he, by have := HE.out; push_cast; omega, rfl⟩
        case measure => simp [intOf]; omega
      · have ho : man % 2 = 1 := by omega
        go_wp2
        exact bodyPost_ret (v := .agg #[.int .i64 1, .bool (x / 32768 == 1), .int .i64 e, .int .u64 man]) (by simp [results, Tryd.results8, go_sem]) rfl ⟨k, man, ht, ho, by rw [HE.out], below_two _ _⟩
  · clear h1
    go_enter Tryd.func8, Tryd.ntmps8
    go_wp2_with (first | (go_at_call 21; refine (hG _).mono ?_; rintro e w' ⟨rfl, rfl⟩) | (go_at_call 18; refine (hA _).mono ?_; rintro e w' ⟨rfl, rfl⟩))
    clear hA hG
    go_loopw [101] (fun _ wr => ∃ (k : Nat) (man e : Int), Tz (x % 8388608) man k ∧ e = 2 - 127 - 24 + k ∧ wr = (w.alloc (.cells #[.int .i64 0, .bool false, .int .i64 0, .int .u64 0] 31)).alloc (.cells #[.int .i64 1, .bool (x / 2147483648 == 1), .int .i64 e, .int .u64 man] 31))
      (fun _ wr => (intOf ((wr.cell? ⟨w.heap.size + 1, 3, none⟩).getD undef)).toNat)
    case atStart =>
      exact ⟨0, _, _, Tz.start (by omega), by simp, rfl⟩
    case round =>
      obtain ⟨k, man, e, ht, hk, rfl⟩ := hrel
      have hb := ht.le (by omega)
      have hp := ht.pos
      have HE : Hid (e = 2 - 127 - 24 + k) := hk
      have he1 : e < 100000 := by omega
      have he2 : -100000 < e := by omega
      clear hk
      by_cases he : man % 2 = 0
      · go_wp2
        go_roundw
        case rel => exact ⟨k + 1, _, _, ht.step he, by have := HE.out; push_cast; omega, rfl⟩
        case measure => simp [intOf]; omega
      · have ho : man % 2 = 1 := by omega
        go_wp2
        exact bodyPost_ret (v := .agg #[.int .i64 1, .bool (x / 2147483648 == 1), .int .i64 e, .int .u64 man]) (by simp [results, Tryd.results8, go_sem]) rfl ⟨k, man, ht, ho, by rw [HE.out], below_two _ _⟩
  · clear h1
    go_enter Tryd.func8, Tryd.ntmps8
    go_wp2_with (first | (go_at_call 21; refine (hG _).mono ?_; rintro e w' ⟨rfl, rfl⟩) | (go_at_call 18; refine (hA _).mono ?_; rintro e w' ⟨rfl, rfl⟩))
    clear hA hG
    go_loopw [101] (fun _ wr => ∃ (k : Nat) (man e : Int), Tz (x % 4503599627370496) man k ∧ e = 2 - 1023 - 53 + k ∧ wr = (w.alloc (.cells #[.int .i64 0, .bool false, .int .i64 0, .int .u64 0] 31)).alloc (.cells #[.int .i64 1, .bool (x / 9223372036854775808 == 1), .int .i64 e, .int .u64 man] 31))
      (fun _ wr => (intOf ((wr.cell? ⟨w.heap.size + 1, 3, none⟩).getD undef)).toNat)
    case atStart =>
      exact ⟨0, _, _, Tz.start (by omega), by simp, rfl⟩
    case round =>
      obtain ⟨k, man, e, ht, hk, rfl⟩ := hrel
      have hb := ht.le (by omega)
      have hp := ht.pos
      have HE : Hid (e = 2 - 1023 - 53 + k) := hk
      have he1 : e < 100000 := by omega
      have he2 : -100000 < e := by omega
      clear hk
      by_cases he : man % 2 = 0
      · go_wp2
        go_roundw
        case rel => exact ⟨k + 1, _, _, ht.step he, by have := HE.out; push_cast; omega, rfl⟩
        case measure => simp [intOf]; omega
      · have ho : man % 2 = 1 := by omega
        go_wp2
        exact bodyPost_ret (v := .agg #[.int .i64 1, .bool (x / 9223372036854775808 == 1), .int .i64 e, .int .u64 man]) (by simp [results, Tryd.results8, go_sem]) rfl ⟨k, man, ht, ho, by rw [HE.out], below_two _ _⟩

set_option maxHeartbeats 1000000 in
theorem sunpack_norm {f wd p t S D h q : Int} (hF : Frm f wd p t S D h q) (x : Int) (w : World) (h0 : 0 ≤ x) (h1 : x < D) (hX : ¬ x / h % q = 0) (hY : ¬ x / h % q = 2 * t + 1) :
    Calls Tryd.prog 8 #[.int .i64 f, .int .u64 x] w fun e w' => ∃ (k : Nat) (man : Int), Tz (x % h + h) man k ∧ man % 2 = 1 ∧ e = .returned (.agg #[.int .i64 1, .bool (x / S == 1), .int .i64 (x / h % q - t - p + 1 + k), .int .u64 man]) ∧ Below w.heap.size w w' := by
  have hA := fun w => are_yes hF.form x h0 h1 w
  have hG := fun w => l1Form_any hF.form w
  rcases hF with ⟨rfl, rfl, rfl, rfl, rfl, rfl, rfl, rfl⟩ | ⟨rfl, rfl, rfl, rfl, rfl, rfl, rfl, rfl⟩ | ⟨rfl, rfl, rfl, rfl, rfl, rfl, rfl, rfl⟩
  · clear h1
    go_enter Tryd.func8, Tryd.ntmps8
    go_wp2_with (first | (go_at_call 21; refine (hG _).mono ?_; rintro e w' ⟨rfl, rfl⟩) | (go_at_call 18; refine (hA _).mono ?_; rintro e w' ⟨rfl, rfl⟩))
    clear hA hG
    go_loopw [101] (fun _ wr => ∃ (k : Nat) (man e : Int), Tz (x % 1024 + 1024) man k ∧ e = x / 1024 % 32 - 15 - 11 + 1 + k ∧ wr = (w.alloc (.cells #[.int .i64 0, .bool false, .int .i64 0, .int .u64 0] 31)).alloc (.cells #[.int .i64 1, .bool (x / 32768 == 1), .int .i64 e, .int .u64 man] 31))
      (fun _ wr => (intOf ((wr.cell? ⟨w.heap.size + 1, 3, none⟩).getD undef)).toNat)
    case atStart =>
      exact ⟨0, _, _, Tz.start (by omega), by simp, rfl⟩
    case round =>
      obtain ⟨k, man, e, ht, hk, rfl⟩ := hrel
      have hb := ht.le (by omega)
      have hp := ht.pos
      have HE : Hid (e = x / 1024 % 32 - 15 - 11 + 1 + k) := hk
      have he1 : e < 100000 := by omega
      have he2 : -100000 < e := by omega
      clear hk
      by_cases he : man % 2 = 0
      · go_wp2
        go_roundw
        case rel => exact ⟨k + 1, _, _, ht.step he, by have := HE.out; push_cast; omega, rfl⟩
        case measure => simp [intOf]; omega
      · have ho : man % 2 = 1 := by omega
        go_wp2
        exact bodyPost_ret (v := .agg #[.int .i64 1, .bool (x / 32768 == 1), .int .i64 e, .int .u64 man]) (by simp [results, Tryd.results8, go_sem]) rfl ⟨k, man, ht, ho, by rw [HE.out], below_two _ _⟩
  · clear h1
    go_enter Tryd.func8, Tryd.ntmps8
    go_wp2_with (first | (go_at_call 21; refine (hG _).mono ?_; rintro e w' ⟨rfl, rfl⟩) | (go_at_call 18; refine (hA _).mono ?_; rintro e w' ⟨rfl, rfl⟩))
    clear hA hG
    go_loopw [101] (fun _ wr => ∃ (k : Nat) (man e : Int), Tz (x % 8388608 + 8388608) man k ∧ e = x / 8388608 % 256 - 127 - 24 + 1 + k ∧ wr = (w.alloc (.cells #[.int .i64 0, .bool false, .int .i64 0, .int .u64 0] 31)).alloc (.cells #[.int .i64 1, .bool (x / 2147483648 == 1), .int .i64 e, .int .u64 man] 31))
      (fun _ wr => (intOf ((wr.cell? ⟨w.heap.size + 1, 3, none⟩).getD undef)).toNat)
    case atStart =>
      exact ⟨0, _, _, Tz.start (by omega), by simp, rfl⟩
    case round =>
      obtain ⟨k, man, e, ht, hk, rfl⟩ := hrel
      have hb := ht.le (by omega)
      have hp := ht.pos
      have HE : Hid (e = x / 8388608 % 256 - 127 - 24 + 1 + k) := hk
      have he1 : e < 100000 := by omega
      have he2 : -100000 < e := by omega
      clear hk
      by_cases he : man % 2 = 0
      · go_wp2
        go_roundw
        case rel => exact ⟨k + 1, _, _, ht.step he, by have := HE.out; push_cast; omega, rfl⟩
        case measure => simp [intOf]; omega
      · have ho : man % 2 = 1 := by omega
        go_wp2
        exact bodyPost_ret (v := .agg #[.int .i64 1, .bool (x / 2147483648 == 1), .int .i64 e, .int .u64 man]) (by simp [results, Tryd.results8, go_sem]) rfl ⟨k, man, ht, ho, by rw [HE.out], below_two _ _⟩
  · clear h1
    go_enter Tryd.func8, Tryd.ntmps8
    go_wp2_with (first | (go_at_call 21; refine (hG _).mono ?_; rintro e w' ⟨rfl, rfl⟩) | (go_at_call 18; refine (hA _).mono ?_; rintro e w' ⟨rfl, rfl⟩))
    clear hA hG
    go_loopw [101] (fun _ wr => ∃ (k : Nat) (man e : Int), Tz (x % 4503599627370496 + 4503599627370496) man k ∧ e = x / 4503599627370496 % 2048 - 1023 - 53 + 1 + k ∧ wr = (w.alloc (.cells #[.int .i64 0, .bool false, .int .i64 0, .int .u64 0] 31)).alloc (.cells #[.int .i64 1, .bool (x / 9223372036854775808 == 1), .int .i64 e, .int .u64 man] 31))
      (fun _ wr => (intOf ((wr.cell? ⟨w.heap.size + 1, 3, none⟩).getD undef)).toNat)
    case atStart =>
      exact ⟨0, _, _, Tz.start (by omega), by simp, rfl⟩
    case round =>
      obtain ⟨k, man, e, ht, hk, rfl⟩ := hrel
      have hb := ht.le (by omega)
      have hp := ht.pos
      have HE : Hid (e = x / 4503599627370496 % 2048 - 1023 - 53 + 1 + k) := hk
      have he1 : e < 100000 := by omega
      have he2 : -100000 < e := by omega
      clear hk
      by_cases he : man % 2 = 0
      · go_wp2
        go_roundw
        case rel => exact ⟨k + 1, _, _, ht.step he, by have := HE.out; push_cast; omega, rfl⟩
        case measure => simp [intOf]; omega
      · have ho : man % 2 = 1 := by omega
        go_wp2
        exact bodyPost_ret (v := .agg #[.int .i64 1, .bool (x / 9223372036854775808 == 1), .int .i64 e, .int .u64 man]) (by simp [results, Tryd.results8, go_sem]) rfl ⟨k, man, ht, ho, by rw [HE.out], below_two _ _⟩
end Go.Proofs.YtghblaphkbcgpaaDoor
