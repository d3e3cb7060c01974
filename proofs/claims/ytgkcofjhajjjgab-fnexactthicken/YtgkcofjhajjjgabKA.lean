/- What is kept: isKeep of both sides. -/
import Derived.Test.YtgkcofjhajjjgabBT
namespace Go.Proofs.Ytgkcofjhajjjgab
open Go.RowKit

/-- What is kept: a list of at most 32 bits, one of them a 1. -/
def Kp (q : Nat) (ks : Nat → Int) : Prop := q ≤ 32 ∧ (∀ k, k < q → Bit (ks k)) ∧ ∃ k, k < q ∧ ks k = 1
noncomputable instance (q : Nat) (ks : Nat → Int) : Decidable (Kp q ks) := Classical.propDecidable _

theorem Kp.pos {q : Nat} {ks : Nat → Int} (h : Kp q ks) : 0 < q := by
  obtain ⟨k, hk, _⟩ := h.2.2
  omega

/-- Whether a place is kept, how many are kept ahead of it, and which is the j-th. -/
abbrev Kt (q : Nat) (ks : Nat → Int) (i : Nat) : Prop := ks (i % q) = 1
def kc (q : Nat) (ks : Nat → Int) : Nat → Nat
  | 0 => 0
  | i + 1 => if Kt q ks i then kc q ks i + 1 else kc q ks i
def pf (q : Nat) (ks : Nat → Int) : Nat → Nat → Nat
  | 0, _ => 0
  | i + 1, j => if Kt q ks i ∧ j = kc q ks i then i else pf q ks i j
def tf (q : Nat) (ks xs : Nat → Int) : Nat → Nat → Int
  | 0, _ => 0
  | i + 1, j => if Kt q ks i ∧ j = kc q ks i then xs i else tf q ks xs i j

theorem kc_yes {q : Nat} {ks : Nat → Int} {i : Nat} (h : Kt q ks i) : kc q ks (i + 1) = kc q ks i + 1 := by rw [kc, if_pos h]
theorem kc_no {q : Nat} {ks : Nat → Int} {i : Nat} (h : ¬ Kt q ks i) : kc q ks (i + 1) = kc q ks i := by rw [kc, if_neg h]

theorem kc_le (q : Nat) (ks : Nat → Int) (i : Nat) : kc q ks i ≤ i := by
  induction i with
  | zero => exact Nat.le_refl _
  | succ i ih =>
    by_cases h : Kt q ks i
    · rw [kc_yes h]; omega
    · rw [kc_no h]; omega

theorem kc_mono {q : Nat} {ks : Nat → Int} {i j : Nat} (h : i ≤ j) : kc q ks i ≤ kc q ks j := by
  induction j with
  | zero => obtain rfl : i = 0 := by omega
            exact Nat.le_refl _
  | succ j ih =>
    by_cases e : i = j + 1
    · rw [e]; exact Nat.le_refl _
    · have h1 := ih (by omega)
      by_cases h2 : Kt q ks j
      · rw [kc_yes h2]; omega
      · rw [kc_no h2]; omega

theorem kc_lt {q : Nat} {ks : Nat → Int} {i j : Nat} (h : i < j) (hk : Kt q ks i) : kc q ks i < kc q ks j := by
  have h1 := kc_mono (q := q) (ks := ks) (show i + 1 ≤ j from h)
  rw [kc_yes hk] at h1
  omega

theorem pf_told {q : Nat} {ks : Nat → Int} {n j : Nat} (h : j < kc q ks n) : pf q ks n j < n ∧ Kt q ks (pf q ks n j) ∧ kc q ks (pf q ks n j) = j := by
  induction n with
  | zero => exact absurd h (by simp [kc])
  | succ n ih =>
    by_cases hk : Kt q ks n
    · rw [kc_yes hk] at h
      by_cases e : j = kc q ks n
      · rw [pf, if_pos ⟨hk, e⟩]
        exact ⟨by omega, hk, e.symm⟩
      · rw [pf, if_neg (fun h9 => e h9.2)]
        obtain ⟨h1, h2, h3⟩ := ih (by omega)
        exact ⟨by omega, h2, h3⟩
    · rw [kc_no hk] at h
      rw [pf, if_neg (fun h9 => hk h9.1)]
      obtain ⟨h1, h2, h3⟩ := ih h
      exact ⟨by omega, h2, h3⟩

/-- A kept place is told by how many are kept ahead of it. -/
theorem kt_one {q : Nat} {ks : Nat → Int} {i j : Nat} (hi : Kt q ks i) (hj : Kt q ks j) (h : kc q ks i = kc q ks j) : i = j := by
  rcases Nat.lt_trichotomy i j with h1 | h1 | h1
  · have := kc_lt h1 hi; omega
  · exact h1
  · have := kc_lt h1 hj; omega

theorem tf_pf {q : Nat} {ks xs : Nat → Int} {n j : Nat} (h : j < kc q ks n) : tf q ks xs n j = xs (pf q ks n j) := by
  induction n with
  | zero => exact absurd h (by simp [kc])
  | succ n ih =>
    by_cases hk : Kt q ks n ∧ j = kc q ks n
    · rw [tf, pf, if_pos hk, if_pos hk]
    · rw [tf, pf, if_neg hk, if_neg hk]
      refine ih ?_
      by_cases hk2 : Kt q ks n
      · rw [kc_yes hk2] at h
        have : j ≠ kc q ks n := fun e => hk ⟨hk2, e⟩
        omega
      · rwa [kc_no hk2] at h

theorem tf_more {q : Nat} {ks xs : Nat → Int} {n j : Nat} (h : j < kc q ks n) : tf q ks xs (n + 1) j = tf q ks xs n j := by
  rw [tf, if_neg (fun h9 => by omega)]
theorem tf_last {q : Nat} {ks xs : Nat → Int} {n : Nat} (h : Kt q ks n) : tf q ks xs (n + 1) (kc q ks n) = xs n := by
  rw [tf, if_pos ⟨h, rfl⟩]
theorem pf_more {q : Nat} {ks : Nat → Int} {n j : Nat} (h : j < kc q ks n) : pf q ks (n + 1) j = pf q ks n j := by
  rw [pf, if_neg (fun h9 => by omega)]
theorem pf_last {q : Nat} {ks : Nat → Int} {n : Nat} (h : Kt q ks n) : pf q ks (n + 1) (kc q ks n) = n := by
  rw [pf, if_pos ⟨h, rfl⟩]

/-- A row that goes on, in two spellings. -/
theorem ils_tf {q : Nat} {ks xs : Nat → Int} {n : Nat} (h : Kt q ks n) : ils (tf q ks xs n) (kc q ks n) ++ [.int .i64 (xs n)] = ils (tf q ks xs (n + 1)) (kc q ks (n + 1)) := by
  rw [kc_yes h, ils_snoc, tf_last h, ils_congr (fun j hj => tf_more hj)]
theorem ils_tf_no {q : Nat} {ks xs : Nat → Int} {n : Nat} (h : ¬ Kt q ks n) : ils (tf q ks xs n) (kc q ks n) = ils (tf q ks xs (n + 1)) (kc q ks (n + 1)) := by
  rw [kc_no h, ils_congr (fun j hj => tf_more hj)]
theorem ils_pf {q : Nat} {ks : Nat → Int} {n : Nat} (h : Kt q ks n) : ils (fun j => (pf q ks n j : Int)) (kc q ks n) ++ [.int .i64 (n : Int)] = ils (fun j => (pf q ks (n + 1) j : Int)) (kc q ks (n + 1)) := by
  rw [kc_yes h, ils_snoc, pf_last h, ils_congr (f := fun j => (pf q ks (n + 1) j : Int)) (g := fun j => (pf q ks n j : Int)) (fun j hj => by rw [pf_more hj])]
theorem ils_pf_no {q : Nat} {ks : Nat → Int} {n : Nat} (h : ¬ Kt q ks n) : ils (fun j => (pf q ks n j : Int)) (kc q ks n) = ils (fun j => (pf q ks (n + 1) j : Int)) (kc q ks (n + 1)) := by
  rw [kc_no h, ils_congr (f := fun j => (pf q ks (n + 1) j : Int)) (g := fun j => (pf q ks n j : Int)) (fun j hj => by rw [pf_more hj])]

set_option maxHeartbeats 1000000 in
theorem idx_any {w : World} {v : Value} {q : Nat} {ks : Nat → Int} (hv : Il w v q ks) (hn : q ≤ 1048576) : Calls Try.prog 22 #[v, .int .i64 1] w fun e w' => ∃ r : Int, e = .returned (.int .i64 r) ∧ (0 ≤ r ↔ ∃ k, k < q ∧ ks k = 1) ∧ w' = w := by
  obtain ⟨bo, cap, rfl, hcap, hc⟩ := hv
  have HC : Hid (0 < q → ∃ b off, bo = some ⟨b, off, none⟩ ∧ b < w.heap.size ∧ ∀ k, k < q → w.cell? ⟨b, off + k, none⟩ = some (.int .i64 (ks k))) := hc
  clear hc
  go_enter Try.func22, Try.ntmps22
  go_wp2
  go_loopw [5, 8] (fun _ i wr => ∃ k : Nat, i = .int .i64 k ∧ k ≤ q ∧ wr = w ∧ Hid (∀ j, j < k → ks j ≠ 1)) (fun _ i _ => q - (intOf i).toNat)
  case atStart => exact ⟨0, rfl, by omega, rfl, fun j hj => by omega⟩
  case round =>
    obtain ⟨k, rfl, hk, rfl, hal⟩ := hrel
    by_cases h1 : k < q
    · obtain ⟨b, off, rfl, hlt, hcell⟩ := HC.out (by omega)
      have c := hcell k h1
      clear hcell
      by_cases h3 : ks k = 1
      · have HS : Hid (ks k = 1) := h3
        rw [h3] at c
        clear h3
        go_wp2
        go_ret
        exact ⟨_, rfl, ⟨fun _ => ⟨k, h1, HS.out⟩, fun _ => by omega⟩, rfl⟩
      · have HS : Hid (ks k ≠ 1) := h3
        obtain ⟨x, hx⟩ : ∃ x, x = ks k := ⟨_, rfl⟩
        rw [← hx] at c h3
        have h4 : (1 == x) = false := by simp; omega
        clear hx
        go_wp2
        go_roundw
        case rel =>
          refine ⟨k + 1, by go_num, by omega, by trivial, fun j hj => ?_⟩
          by_cases hjk : j = k
          · subst hjk; exact HS.out
          · exact hal.out j (by omega)
        case measure => simp [intOf]; omega
    · obtain rfl : k = q := by omega
      go_wp2
      go_ret
      exact ⟨_, rfl, ⟨fun h => by omega, fun ⟨j, hj, h9⟩ => absurd h9 (hal.out j hj)⟩, rfl⟩

set_option maxHeartbeats 1000000 in
theorem cont_any {w : World} {v : Value} {q : Nat} {ks : Nat → Int} (hv : Il w v q ks) (hn : q ≤ 1048576) {d : Bool} (hd : d = true ↔ ∃ k, k < q ∧ ks k = 1) : Calls Try.prog 20 #[v, .int .i64 1] w fun e w' => e = .returned (.bool d) ∧ w' = w := by
  have i1 := idx_any hv hn
  obtain ⟨bo, cap, rfl, hcap, hc⟩ := hv
  clear hc
  have HD : Hid (d = true ↔ ∃ k, k < q ∧ ks k = 1) := hd
  clear hd
  go_enter Try.func20, Try.ntmps20
  go_wp2_with (first | (go_at_call 22; (with_reducible refine i1.mono ?_); rintro e w' ⟨r, rfl, hr, hw⟩; obtain rfl := hw.symm; have HR : Hid (0 ≤ r ↔ ∃ k, k < q ∧ ks k = 1) := hr; clear hr))
  go_ret
  refine ⟨congrArg (fun z => Ending.returned (.bool z)) ?_, rfl⟩
  have h9 : d = true ↔ 0 ≤ r := HD.out.trans HR.out.symm
  cases d with
  | true => exact decide_eq_true (h9.1 rfl)
  | false => exact decide_eq_false (fun h => by cases h9.2 h)

theorem iKeep_any {w : World} {v : Value} {q : Nat} {ks : Nat → Int} (hv : Il w v q ks) (hn : q ≤ 1048576) : Calls Try.prog 15 #[v] w fun e w' => e = .returned (.bool (decide (Kp q ks))) ∧ w' = w := by
  have i1 := iBits_any hv hn
  obtain ⟨d, hd⟩ : ∃ d : Bool, d = true ↔ ∃ k, k < q ∧ ks k = 1 := by
    by_cases h : ∃ k, k < q ∧ ks k = 1
    · exact ⟨true, ⟨fun _ => h, fun _ => rfl⟩⟩
    · exact ⟨false, ⟨fun h9 => (by cases h9), fun h9 => absurd h9 h⟩⟩
  have i2 := cont_any hv hn hd
  obtain ⟨bo, cap, rfl, hcap, hc⟩ := hv
  clear hc
  obtain ⟨r, hr⟩ : ∃ r, r = decide (Kp q ks) := ⟨_, rfl⟩
  rw [← hr]
  have HR : Hid (r = decide (Kp q ks)) := hr
  have HD : Hid (d = true ↔ ∃ k, k < q ∧ ks k = 1) := hd
  clear hr hd
  by_cases h1 : q ≤ 32
  · by_cases h2 : Bts q ks
    · rw [decide_eq_true h2] at i1
      have HT : Hid (∀ k, k < q → Bit (ks k)) := h2.2
      clear h2
      go_enter Try.func15, Try.ntmps15
      go_wp2_with (first | (go_at_call 18; (with_reducible refine (i1).mono ?_); rintro e w' ⟨rfl, hw⟩; obtain rfl := hw.symm) | (go_at_call 20; (with_reducible refine (i2).mono ?_); rintro e w' ⟨rfl, hw⟩; obtain rfl := hw.symm))
      go_ret
      refine ⟨congrArg (fun z => Ending.returned (.bool z)) ?_, rfl⟩
      rw [HR.out]
      cases d with
      | true => exact (decide_eq_true (p := Kp q ks) ⟨h1, HT.out, HD.out.1 rfl⟩).symm
      | false => exact (decide_eq_false (p := Kp q ks) (fun h => by cases HD.out.2 h.2.2)).symm
    · rw [decide_eq_false h2] at i1
      have HT : Hid (¬ Bts q ks) := h2
      clear h2 i2
      go_enter Try.func15, Try.ntmps15
      go_wp2_with (first | (go_at_call 18; (with_reducible refine (i1).mono ?_); rintro e w' ⟨rfl, hw⟩; obtain rfl := hw.symm))
      go_ret
      refine ⟨congrArg (fun z => Ending.returned (.bool z)) ?_, rfl⟩
      rw [HR.out]
      exact (decide_eq_false (p := Kp q ks) (fun h => HT.out ⟨by omega, h.2.1⟩)).symm
  · clear i1 i2
    go_enter Try.func15, Try.ntmps15
    go_wp2
    go_ret
    refine ⟨congrArg (fun z => Ending.returned (.bool z)) ?_, rfl⟩
    rw [HR.out]
    exact (decide_eq_false (p := Kp q ks) (fun h => h1 h.1)).symm

set_option maxHeartbeats 2000000 in
theorem sKeep_any {w : World} {v : Value} {q : Nat} {ks : Nat → Int} (hv : Il w v q ks) (hn : q ≤ 1048576) : Calls Try.prog 13 #[v] w fun e w' => e = .returned (.bool (decide (Kp q ks))) ∧ w' = w := by
  obtain ⟨bo, cap, rfl, hcap, hc⟩ := hv
  have HC : Hid (0 < q → ∃ b off, bo = some ⟨b, off, none⟩ ∧ b < w.heap.size ∧ ∀ k, k < q → w.cell? ⟨b, off + k, none⟩ = some (.int .i64 (ks k))) := hc
  clear hc
  obtain ⟨r, hr⟩ : ∃ r, r = decide (Kp q ks) := ⟨_, rfl⟩
  rw [← hr]
  have HR : Hid (r = decide (Kp q ks)) := hr
  clear hr
  go_enter Try.func13, Try.ntmps13
  go_wp2
  go_loopw [3, 4] (fun sm i wr => ∃ (k : Nat) (d : Bool), i = .int .i64 k ∧ sm = .bool d ∧ k ≤ q ∧ wr = w ∧ Hid ((∀ j, j < k → Bit (ks j)) ∧ (d = true ↔ ∃ j, j < k ∧ ks j = 1))) (fun _ i _ => q - (intOf i).toNat)
  case atStart => exact ⟨0, false, rfl, rfl, by omega, rfl, fun j hj => by omega, ⟨fun h => (by cases h), fun ⟨j, hj, _⟩ => (by omega)⟩⟩
  case round =>
    obtain ⟨k, d, rfl, rfl, hk, rfl, hal⟩ := hrel
    by_cases h1 : k < q
    · obtain ⟨b, off, rfl, hlt, hcell⟩ := HC.out (by omega)
      have c := hcell k h1
      clear hcell
      have i1 := in_any (ks k) 0 1
      by_cases hs : Bit (ks k)
      · rw [decide_eq_true (by omega)] at i1
        have HS : Hid (Bit (ks k)) := hs
        by_cases h3 : ks k = 1
        · have H3 : Hid (ks k = 1) := h3
          rw [h3] at c i1
          clear hs h3
          cases d with
          | true =>
            go_wp2_with (first | (go_at_call 14; (with_reducible refine (i1 _).mono ?_); rintro e w' ⟨rfl, hw⟩; obtain rfl := hw.symm))
            go_roundw
            case rel =>
              refine ⟨k + 1, true, by go_num, rfl, by omega, by trivial, fun j hj => ?_, ⟨fun _ => ⟨k, by omega, H3.out⟩, fun _ => rfl⟩⟩
              by_cases hjk : j = k
              · subst hjk; exact HS.out
              · exact hal.out.1 j (by omega)
            case measure => simp [intOf]; omega
          | false =>
            go_wp2_with (first | (go_at_call 14; (with_reducible refine (i1 _).mono ?_); rintro e w' ⟨rfl, hw⟩; obtain rfl := hw.symm))
            go_roundw
            case rel =>
              refine ⟨k + 1, true, by go_num, rfl, by omega, by trivial, fun j hj => ?_, ⟨fun _ => ⟨k, by omega, H3.out⟩, fun _ => rfl⟩⟩
              by_cases hjk : j = k
              · subst hjk; exact HS.out
              · exact hal.out.1 j (by omega)
            case measure => simp [intOf]; omega
        · have H3 : Hid (¬ ks k = 1) := h3
          obtain rfl0 : ks k = 0 := by omega
          rw [rfl0] at c i1
          clear hs h3 rfl0
          cases d with
          | true =>
            go_wp2_with (first | (go_at_call 14; (with_reducible refine (i1 _).mono ?_); rintro e w' ⟨rfl, hw⟩; obtain rfl := hw.symm))
            go_roundw
            case rel =>
              refine ⟨k + 1, true, by go_num, rfl, by omega, by trivial, fun j hj => ?_, ⟨fun _ => ?_, fun _ => rfl⟩⟩
              · by_cases hjk : j = k
                · subst hjk; exact HS.out
                · exact hal.out.1 j (by omega)
              · obtain ⟨j, hj, h9⟩ := hal.out.2.1 (by trivial)
                exact ⟨j, by omega, h9⟩
            case measure => simp [intOf]; omega
          | false =>
            go_wp2_with (first | (go_at_call 14; (with_reducible refine (i1 _).mono ?_); rintro e w' ⟨rfl, hw⟩; obtain rfl := hw.symm))
            go_roundw
            case rel =>
              refine ⟨k + 1, false, by go_num, rfl, by omega, by trivial, fun j hj => ?_, ⟨fun h => (by cases h), fun ⟨j, hj, h9⟩ => ?_⟩⟩
              · by_cases hjk : j = k
                · subst hjk; exact HS.out
                · exact hal.out.1 j (by omega)
              · by_cases hjk : j = k
                · subst hjk; exact absurd h9 H3.out
                · have h8 := hal.out.2.2 ⟨j, by omega, h9⟩
                  first | exact h8 | exact h8.elim
            case measure => simp [intOf]; omega
      · rw [decide_eq_false (by omega)] at i1
        have HS : Hid (¬ Bit (ks k)) := hs
        clear hs
        go_wp2_with (first | (go_at_call 14; (with_reducible refine (i1 _).mono ?_); rintro e w' ⟨rfl, hw⟩; obtain rfl := hw.symm))
        go_ret
        refine ⟨congrArg (fun z => Ending.returned (.bool z)) ?_, rfl⟩
        rw [HR.out]
        exact (decide_eq_false (p := Kp q ks) (fun h => HS.out (h.2.1 k h1))).symm
    · obtain rfl : k = q := by omega
      by_cases h3 : k ≤ 32
      · cases d with
        | true =>
          go_wp2
          go_ret
          refine ⟨congrArg (fun z => Ending.returned (.bool z)) ?_, rfl⟩
          rw [HR.out]
          have h8 := (decide_eq_true (p := Kp k ks) ⟨h3, hal.out.1, hal.out.2.1 (by trivial)⟩).symm
          first | exact h8 | exact (decide_eq_true (by omega)).trans h8
        | false =>
          go_wp2
          go_ret
          refine ⟨congrArg (fun z => Ending.returned (.bool z)) ?_, rfl⟩
          rw [HR.out]
          exact (decide_eq_false (p := Kp k ks) (fun h => (by have h8 := hal.out.2.2 h.2.2; first | exact h8 | cases h8))).symm
      · cases d with
        | true =>
          go_wp2
          go_ret
          refine ⟨congrArg (fun z => Ending.returned (.bool z)) ?_, rfl⟩
          rw [HR.out]
          first | exact (decide_eq_false (p := Kp k ks) (fun h => h3 h.1)).symm | exact (decide_eq_false (by omega)).trans (decide_eq_false (p := Kp k ks) (fun h => h3 h.1)).symm
        | false =>
          go_wp2
          go_ret
          refine ⟨congrArg (fun z => Ending.returned (.bool z)) ?_, rfl⟩
          rw [HR.out]
          exact (decide_eq_false (p := Kp k ks) (fun h => h3 h.1)).symm
end Go.Proofs.Ytgkcofjhajjjgab
