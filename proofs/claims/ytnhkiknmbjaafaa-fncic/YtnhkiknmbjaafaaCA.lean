/- Cic: stages in plain numbers, and the program. -/
import Derived.Test.YtnhkiknmbjaafaaCU
namespace Go.Proofs.Ytnhkiknmbjaafaa
open Go.RowKit

/-- Gathered s times. -/
def gtn (m : Nat) (xs : Nat → Int) : Nat → Nat → Int
  | 0 => xs
  | s + 1 => gat m (gtn m xs s)

theorem gat_bounds {m n : Nat} {xs : Nat → Int} {M : Int} (hm : m ≤ 32) (hM : 0 ≤ M) (h : ∀ k, k < n → -M ≤ xs k ∧ xs k ≤ M) : ∀ k, k < n → -(M * 32) ≤ gat m xs k ∧ gat m xs k ≤ M * 32 := by
  intro k hk
  unfold gat
  have h1 := psum_bounds h hk (min m (k + 1))
  have h2 : M * ((min m (k + 1) : Nat) : Int) ≤ M * 32 := Int.mul_le_mul_of_nonneg_left (by omega) hM
  omega

theorem gtn_bounds {m n : Nat} {xs : Nat → Int} (hm : m ≤ 32) (h : Wth 32767 n xs) : ∀ s : Nat, ∀ k, k < n → -(32767 * 32 ^ s) ≤ gtn m xs s k ∧ gtn m xs s k ≤ 32767 * 32 ^ s
  | 0 => by simpa [gtn] using h
  | s + 1 => by
    have ih := gtn_bounds hm h s
    have h1 := gat_bounds (M := 32767 * 32 ^ s) hm (Int.mul_nonneg (by omega) (Int.pow_nonneg (by omega))) ih
    rw [Int.pow_succ, ← Int.mul_assoc]
    exact h1

theorem gtn_bnd {m n : Nat} {xs : Nat → Int} (hm : m ≤ 32) (h : Wth 32767 n xs) {s : Nat} (hs : s ≤ 5) : Bnd n (gtn m xs s) := by
  intro k hk
  have h1 := gtn_bounds hm h s k hk
  have h2 : (32 : Int) ^ s ≤ 32 ^ 5 := by rcases (by omega : s = 0 ∨ s = 1 ∨ s = 2 ∨ s = 3 ∨ s = 4 ∨ s = 5) with rfl | rfl | rfl | rfl | rfl | rfl <;> decide
  have h3 : (32 : Int) ^ 5 = 33554432 := by decide
  omega

/-- Every m-th one. -/
def thn (m : Nat) (ys : Nat → Int) (j : Nat) : Int := ys (m * (j + 1) - 1)

/-- Good for Cic. -/
abbrev GC (n : Nat) (xs : Nat → Int) (r s : Int) : Prop := (n ≤ 512 ∧ Wth 32767 n xs) ∧ (1 ≤ r ∧ r ≤ 32) ∧ (1 ≤ s ∧ s ≤ 5)

theorem narrow_sig {n : Nat} {xs : Nat → Int} : (n ≤ 512 ∧ Wth 32767 n xs) ↔ (Sig n xs ∧ Wth 32767 n xs) := by
  constructor
  · rintro ⟨h1, h2⟩
    exact ⟨⟨h1, fun k hk => by have := h2 k hk; omega⟩, h2⟩
  · rintro ⟨⟨h1, _⟩, h2⟩
    exact ⟨h1, h2⟩

theorem iNarrow_any {w : World} {v : Value} {n : Nat} {xs : Nat → Int} (hv : Il w v n xs) (hn : n ≤ 1048576) : Calls Try.prog 16 #[v] w fun e w' => e = .returned (.bool (decide (n ≤ 512 ∧ Wth 32767 n xs))) ∧ w' = w := by
  have i1 := iSig_any hv hn
  have i2 := iWth_any hv hn (M := 32767) (by omega)
  rw [show decide (n ≤ 512 ∧ Wth 32767 n xs) = decide (Sig n xs ∧ Wth 32767 n xs) from decide_eq_decide.2 narrow_sig]
  obtain ⟨ao, cap, rfl, hcap, hc⟩ := hv
  clear hc
  obtain ⟨d, hd⟩ : ∃ d, d = decide (Wth 32767 n xs) := ⟨_, rfl⟩
  rw [← hd] at i2
  have HD : Hid _ := hd
  clear hd
  by_cases hs : Sig n xs
  · rw [decide_eq_true hs] at i1
    go_enter Try.func16, Try.ntmps16
    go_wp2_with (first
      | (go_at_call 24; (with_reducible refine i1.mono ?_); rintro e w' ⟨rfl, hw⟩; obtain rfl := hw.symm)
      | (go_at_call 30; (with_reducible refine i2.mono ?_); rintro e w' ⟨rfl, hw⟩; obtain rfl := hw.symm))
    go_ret
    exact ⟨congrArg (fun z => Ending.returned (.bool z)) (by rw [HD.out]; exact decide_eq_decide.2 ⟨fun h => ⟨hs, h⟩, fun h => h.2⟩), rfl⟩
  · rw [decide_eq_false hs] at i1
    go_enter Try.func16, Try.ntmps16
    go_wp2_with (first
      | (go_at_call 24; (with_reducible refine i1.mono ?_); rintro e w' ⟨rfl, hw⟩; obtain rfl := hw.symm))
    go_ret
    exact ⟨congrArg (fun z => Ending.returned (.bool z)) (decide_eq_false (fun h => hs h.1)).symm, rfl⟩

set_option maxHeartbeats 4000000 in
theorem iCic_good {w : World} {v : Value} {n m s : Nat} {xs : Nat → Int} (hv : Il w v n xs) (hx : n ≤ 512 ∧ Wth 32767 n xs) (h0 : 1 ≤ m) (hm : m ≤ 32) (hs0 : 1 ≤ s) (hs : s ≤ 5) :
    Calls Try.prog 6 #[v, .int .i64 (m : Int), .int .i64 (s : Int)] w fun e w' => Pst w w' e (n / m) (thn m (gtn m xs s)) true := by
  have h512 := hx.1
  have i1 := iNarrow_any hv (by omega)
  rw [decide_eq_true hx] at i1
  have i2 := fun W => newGat_any (w := W) (m := m) (by omega) (by omega)
  have HV : Hid (Il w v n xs) := hv
  have HW : Hid (Wth 32767 n xs) := hx.2
  obtain ⟨ao, cap, rfl, hcap, hc⟩ := hv
  clear hc hx
  go_enter Try.func6, Try.ntmps6
  go_wp2_with (first
    | (go_at_call 16; (with_reducible refine i1.mono ?_); rintro e w' ⟨rfl, hw⟩; obtain rfl := hw.symm))
  have HI0 : Hid (Il w (.slice ao n cap) n (gtn m xs 0) ∧ Below w.heap.size w w) := ⟨HV.out, Below.refl _ _⟩
  go_loopw [8, 31] (fun u i wr => ∃ k : Nat, i = .int .i64 k ∧ k ≤ s ∧ Hid (Il wr u n (gtn m xs k) ∧ Below w.heap.size w wr)) (fun _ i _ => s - (intOf i).toNat)
  case atStart => exact ⟨0, rfl, by omega, HI0.out⟩
  case round =>
    obtain ⟨k, rfl, hk, hrel⟩ := hrel
    by_cases h1 : k < s
    · obtain ⟨hil, hbl⟩ := hrel.out
      have HIL : Hid (Il wr _ n (gtn m xs k)) := hil
      have HBL : Hid (Below w.heap.size w wr) := hbl
      have HB : Hid (Bnd n (gtn m xs k)) := gtn_bnd hm HW.out (by omega)
      obtain ⟨ao', cap', rfl, hcap', _⟩ := hil
      clear hbl hrel
      go_wp2_with (first
        | (go_at_call 18; (with_reducible refine (i2 _).mono ?_); rintro e w1 ⟨G, C, P, rfl, hG, hC, hP, h3, h4⟩; have H3 : Hid _ := h3; have H4 : Hid (Below wr.heap.size wr w1) := h4; clear h3 h4)
        | (go_at_call 17; (with_reducible refine (gats_run (HIL.out.below H4.out) (by omega) HB.out (by omega) (by omega) H3.out (fun hn0 b off n' c e hd => by have := HIL.out.at hn0 e; omega)).mono ?_); rintro e w2 ⟨u, rfl, h5, h6⟩; have H5 : Hid (Il w2 u n (gtn m xs (k + 1))) := il_of_own h5; have H6 : Hid (Below w.heap.size w w2) := Kd.below (bstep HBL.out H4.out) h6 (Nat.le_trans HBL.out.size H4.out.size) (fun g hg => by have := HBL.out.size; omega); clear h5 h6))
      go_roundw
      case rel => exact ⟨k + 1, by go_num, by omega, H5.out, H6.out⟩
      case measure => simp [intOf]; omega
    · obtain rfl : k = s := by omega
      rename World => V0
      obtain ⟨hil, hbl⟩ := hrel.out
      have HBL : Hid (Below w.heap.size w V0) := hbl
      have i3 := thin_any hil (by omega) (show m ≤ 1000 by omega) (show m - 1 < m by omega)
      have e0 : (m : Int) - 1 = ((m - 1 : Nat) : Int) := by omega
      have e1 : dN n m (m - 1) = n / m := by unfold dN; rw [show n + m - 1 - (m - 1) = n by omega]
      have e2 : thF m (m - 1) (gtn m xs k) = thn m (gtn m xs k) := by
        funext j
        show gtn m xs k (m - 1 + m * j) = gtn m xs k (m * (j + 1) - 1)
        rw [Nat.mul_succ]; congr 1; omega
      rw [e1, e2] at i3
      clear e1 e2
      generalize m - 1 = m' at e0 i3
      obtain ⟨ao', cap', rfl, hcap', _⟩ := hil
      clear hbl hrel
      go_wp2_with (first
        | (go_at_call 19; (with_reducible refine i3.mono ?_); rintro e w2 ⟨u, rfl, h5, h6⟩; have H5 : Hid (w2.ownsRow w.heap.size 3 1 u (n / m) (ils (thn m (gtn m xs k)) (n / m))) := own_base h5 HBL.out.size; have H6 : Hid (Below w.heap.size w w2) := bstep HBL.out h6; clear h5 h6))
      go_ret2
      exact ⟨_, rfl, H5.out, H6.out⟩

set_option maxHeartbeats 2000000 in
theorem iCic_bad {w : World} {v : Value} {n : Nat} {r s : Int} {xs : Nat → Int} (hv : Il w v n xs) (hn : n ≤ 1048576) (h : ¬ GC n xs r s) (ys : Nat → Int) :
    Calls Try.prog 6 #[v, .int .i64 r, .int .i64 s] w fun e w' => Pst w w' e 0 ys false := by
  have i1 := iNarrow_any hv hn
  obtain ⟨ao, cap, rfl, hcap, hc⟩ := hv
  clear hc
  by_cases hx : n ≤ 512 ∧ Wth 32767 n xs
  · rw [decide_eq_true hx] at i1
    have h' : ¬ ((1 ≤ r ∧ r ≤ 32) ∧ (1 ≤ s ∧ s ≤ 5)) := fun e => h ⟨hx, e⟩
    clear h hx
    by_cases r1 : 1 ≤ r
    · by_cases r2 : r ≤ 32
      · by_cases s1 : 1 ≤ s
        · have s2 : ¬ s ≤ 5 := fun e => h' ⟨⟨r1, r2⟩, s1, e⟩
          clear h'
          go_enter Try.func6, Try.ntmps6
          go_wp2_with (first
            | (go_at_call 16; (with_reducible refine i1.mono ?_); rintro e w' ⟨rfl, hw⟩; obtain rfl := hw.symm))
          go_ret2
          exact ⟨_, rfl, own_empty w 3 1, below_one _ _⟩
        · clear h'
          go_enter Try.func6, Try.ntmps6
          go_wp2_with (first
            | (go_at_call 16; (with_reducible refine i1.mono ?_); rintro e w' ⟨rfl, hw⟩; obtain rfl := hw.symm))
          go_ret2
          exact ⟨_, rfl, own_empty w 3 1, below_one _ _⟩
      · clear h'
        go_enter Try.func6, Try.ntmps6
        go_wp2_with (first
          | (go_at_call 16; (with_reducible refine i1.mono ?_); rintro e w' ⟨rfl, hw⟩; obtain rfl := hw.symm))
        go_ret2
        exact ⟨_, rfl, own_empty w 3 1, below_one _ _⟩
    · clear h'
      go_enter Try.func6, Try.ntmps6
      go_wp2_with (first
        | (go_at_call 16; (with_reducible refine i1.mono ?_); rintro e w' ⟨rfl, hw⟩; obtain rfl := hw.symm))
      go_ret2
      exact ⟨_, rfl, own_empty w 3 1, below_one _ _⟩
  · rw [decide_eq_false hx] at i1
    clear h hx
    go_enter Try.func6, Try.ntmps6
    go_wp2_with (first
      | (go_at_call 16; (with_reducible refine i1.mono ?_); rintro e w' ⟨rfl, hw⟩; obtain rfl := hw.symm))
    go_ret2
    exact ⟨_, rfl, own_empty w 3 1, below_one _ _⟩
end Go.Proofs.Ytnhkiknmbjaafaa
