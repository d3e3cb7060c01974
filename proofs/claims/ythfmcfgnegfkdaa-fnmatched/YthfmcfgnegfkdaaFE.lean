/- Fir in plain numbers; a line's step. -/
import Derived.Test.YthfmcfgnegfkdaaFH
import Derived.Deep.QuietTactic
namespace Go.Proofs.Ythfmcfgnegfkdaa
open Go.RowKit

/-- The samples behind k steps, the newest first. -/
def pst (st xs : Nat → Int) : Nat → Nat → Int
  | 0 => st
  | k + 1 => shf (xs k) (pst st xs k)

/-- What is told at step k. -/
def fir (T : Nat) (f st xs : Nat → Int) (k : Nat) : Int := dts f (shf (xs k) (pst st xs k)) T

theorem pst_at (st xs : Nat → Int) : ∀ k i, pst st xs k i = if i < k then xs (k - 1 - i) else st (i - k)
  | 0, i => by simp [pst]
  | k + 1, i => by
    unfold pst shf
    by_cases h : i = 0
    · subst h
      rw [if_pos rfl, if_pos (by omega)]
      congr 1
    · rw [if_neg h, pst_at st xs k (i - 1)]
      by_cases h1 : i < k + 1
      · rw [if_pos (by omega), if_pos h1]
        congr 1; omega
      · rw [if_neg (by omega), if_neg h1]
        congr 1; omega

/-- Signals and states: the bounds of what is summed. -/
theorem dtb {n : Nat} {f z : Nat → Int} (hf : Wth 1000000 n f) (hz : Wth 1000000000 n z) : ∀ k, k ≤ n → -(1000000000000000 * (k : Int)) ≤ dts f z k ∧ dts f z k ≤ 1000000000000000 * (k : Int)
  | 0, _ => by simp [dts]
  | k + 1, hk => by
    have h1 := dtb hf hz k (by omega)
    have h2 := mul_bounds (hf k (by omega)) (hz k (by omega)) (by omega) (by omega)
    unfold dts
    omega

theorem pst_wth {m N : Nat} {st xs : Nat → Int} (hs : Wth 1000000000 m st) (hx : Wth 1000000000 N xs) {k : Nat} (hk : k ≤ N) : Wth 1000000000 m (pst st xs k) := by
  intro i hi
  rw [pst_at]
  by_cases h : i < k
  · rw [if_pos h]; exact hx _ (by omega)
  · rw [if_neg h]; exact hs _ (by omega)

theorem shf_wth {n : Nat} {x : Int} {z : Nat → Int} (hx : -1000000000 ≤ x ∧ x ≤ 1000000000) (hz : Wth 1000000000 (n - 1) z) : Wth 1000000000 n (shf x z) := by
  intro k hk
  unfold shf
  by_cases h : k = 0
  · rw [if_pos h]; exact hx
  · rw [if_neg h]; exact hz _ (by omega)

/-- A line: its taps (a list that is only read), the samples in a row of its own. -/
structure Ln (W : World) (A : Nat) (tv pv : Value) : Prop where
  c0 : W.cell? ⟨A, 0, none⟩ = some tv
  c1 : W.cell? ⟨A, 1, none⟩ = some pv
  z1 : W.frozen? ⟨A, 1, none⟩ = false

theorem Ln.lt {W : World} {A : Nat} {tv pv : Value} (h : Ln W A tv pv) : A < W.heap.size := World.block_lt_of_cell? W _ h.c0

theorem Ln.block {W W' : World} {A : Nat} {tv pv : Value} (h : Ln W A tv pv) (e : W'.heap[A]? = W.heap[A]?) : Ln W' A tv pv :=
  ⟨(World.cell?_of_block (w := W) e).trans h.c0, (World.cell?_of_block (w := W) e).trans h.c1, (World.frozen?_of_block (w := W) e).trans h.z1⟩

set_option maxHeartbeats 2000000 in
theorem clo47 {W : World} {A G n k m c : Nat} {ao po : Option Addr} {tc : Nat} {s : Int} {f z : Nat → Int} (h : Ln W A (.slice ao n tc) (.slice po m c)) (hG : W.cell? ⟨G, 0, none⟩ = some (.pointer (some ⟨A, 0, none⟩))) (ht : Il W (.slice ao n tc) n f) (hp : Il W (.slice po m c) m z) (hk : k < m) (hmn : m + 1 = n) (hn : n ≤ 64) (hf : Wth 1000000 n f) (hz : Wth 1000000000 m z) (hs : -100000000000000000 ≤ s ∧ s ≤ 100000000000000000) :
    Calls Try.prog 51 #[.int .i64 s, .int .i64 k, .pointer (some ⟨G, 0, none⟩)] W fun e w' => e = .returned (.int .i64 (s + f (k + 1) * z k)) ∧ ∃ q, w' = W.drewN q := by
  have m0 := mul_bounds (hf (k + 1) (by omega)) (hz k hk) (by omega) (by omega)
  obtain ⟨ao', tc', e1, _, hc1⟩ := ht
  obtain ⟨po', c', e2, _, hc2⟩ := hp
  injection e1 with e3 _ e4
  injection e2 with e5 _ e6
  subst e3 e4 e5 e6
  obtain ⟨b1, o1, rfl, _, hcell1⟩ := hc1 (by omega)
  obtain ⟨b2, o2, rfl, _, hcell2⟩ := hc2 (by omega)
  have d1 := hcell1 (k + 1) (by omega)
  have d2 := hcell2 k hk
  have d1' : W.cell? ⟨b1, o1 + (k + 1), none⟩ = some (.int .i64 (f (k + 1))) := d1
  obtain ⟨c0, c1, _⟩ := h
  clear hc1 hc2 hcell1 hcell2 d1
  have hk1 : (k : Int) + 1 < (n : Int) := by omega
  go_enter Try.func51, Try.ntmps51
  go_wp2_with (go_quiet (fail))
  go_ret
  exact ⟨rfl, _, rfl⟩

set_option maxHeartbeats 1000000 in
theorem over47 {w : World} {n : Nat} (hn : n ≤ 64) (c0 : Value) (F : Nat → Int)
    (hst : ∀ k, k < n → ∀ q, Calls Try.prog 51 #[.int .i64 (F k), .int .i64 k, c0] (w.drewN q) fun e w' => e = .returned (.int .i64 (F (k + 1))) ∧ ∃ q', w' = (w.drewN q).drewN q') :
    Calls Try.prog 50 #[.int .i64 n, .int .i64 (F 0), .func (.func 51) #[] #[c0]] w fun e w' => e = .returned (.int .i64 (F n)) ∧ ∃ q, w' = w.drewN q := by
  have HST : Hid (∀ k, k < n → ∀ q, Calls Try.prog 51 #[.int .i64 (F k), .int .i64 k, c0] (w.drewN q) fun e w' => e = .returned (.int .i64 (F (k + 1))) ∧ ∃ q', w' = (w.drewN q).drewN q') := hst
  clear hst
  go_enter Try.func50, Try.ntmps50
  go_wp2
  go_loopw [1, 7, 9] (fun s _ i wr => ∃ k q : Nat, i = .int .i64 k ∧ s = .int .i64 (F k) ∧ k ≤ n ∧ wr = w.drewN q) (fun _ _ i _ => n - (intOf i).toNat)
  case atStart => exact ⟨0, 0, rfl, rfl, by omega, rfl⟩
  case round =>
    obtain ⟨k, q, rfl, rfl, hk, rfl⟩ := hrel
    by_cases h1 : k < n
    · have hc := HST.out k h1 q
      go_wp2_with (go_at_call 51; refine hc.mono ?_; rintro e w1 ⟨rfl, q', rfl⟩)
      go_roundw
      case rel => exact ⟨k + 1, q + q', by go_num, rfl, by omega, by simp⟩
      case measure => simp [intOf]; omega
    · obtain rfl : k = n := by omega
      go_wp2
      go_ret
      exact ⟨rfl, q, rfl⟩

set_option maxHeartbeats 1000000 in
theorem over50 {w : World} {n : Nat} (hn : n ≤ 64) (c0 c1 c2 : Value) (F : Nat → Int)
    (hst : ∀ k, k < n → ∀ q, Calls Try.prog 55 #[.int .i64 (F k), .int .i64 k, c0, c1, c2] (w.drewN q) fun e w' => e = .returned (.int .i64 (F (k + 1))) ∧ ∃ q', w' = (w.drewN q).drewN q') :
    Calls Try.prog 50 #[.int .i64 n, .int .i64 (F 0), .func (.func 55) #[] #[c0, c1, c2]] w fun e w' => e = .returned (.int .i64 (F n)) ∧ ∃ q, w' = w.drewN q := by
  have HST : Hid (∀ k, k < n → ∀ q, Calls Try.prog 55 #[.int .i64 (F k), .int .i64 k, c0, c1, c2] (w.drewN q) fun e w' => e = .returned (.int .i64 (F (k + 1))) ∧ ∃ q', w' = (w.drewN q).drewN q') := hst
  clear hst
  go_enter Try.func50, Try.ntmps50
  go_wp2
  go_loopw [1, 7, 9] (fun s _ i wr => ∃ k q : Nat, i = .int .i64 k ∧ s = .int .i64 (F k) ∧ k ≤ n ∧ wr = w.drewN q) (fun _ _ i _ => n - (intOf i).toNat)
  case atStart => exact ⟨0, 0, rfl, rfl, by omega, rfl⟩
  case round =>
    obtain ⟨k, q, rfl, rfl, hk, rfl⟩ := hrel
    by_cases h1 : k < n
    · have hc := HST.out k h1 q
      go_wp2_with (go_at_call 55; refine hc.mono ?_; rintro e w1 ⟨rfl, q', rfl⟩)
      go_roundw
      case rel => exact ⟨k + 1, q + q', by go_num, rfl, by omega, by simp⟩
      case measure => simp [intOf]; omega
    · obtain rfl : k = n := by omega
      go_wp2
      go_ret
      exact ⟨rfl, q, rfl⟩

end Go.Proofs.Ythfmcfgnegfkdaa
