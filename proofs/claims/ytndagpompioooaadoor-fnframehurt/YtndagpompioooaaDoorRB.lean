/- BestRice: both sides. -/
import Derived.Test.YtndagpompioooaaDoorRA
namespace Go.Proofs.YtndagpompioooaaDoor
open Go.RowKit

/-- The best k below K, and how many bits it has. -/
def bst (n : Nat) (xs : Nat → Int) : Nat → Int × Nat
  | 0 => (-1, 0)
  | k + 1 => if rbt k xs n ≤ 100000 ∧ ((bst n xs k).1 < 0 ∨ rbt k xs n < (bst n xs k).2) then ((k : Int), rbt k xs n) else bst n xs k

theorem bst_in (n : Nat) (xs : Nat → Int) (k : Nat) : -1 ≤ (bst n xs k).1 ∧ (bst n xs k).1 < k ∧ (bst n xs k).2 ≤ 100000 ∨ (k = 0 ∧ bst n xs k = (-1, 0)) := by
  induction k with
  | zero => exact .inr ⟨rfl, rfl⟩
  | succ k ih =>
    left
    rw [bst]
    split
    · rename_i h
      exact ⟨by show -1 ≤ (k : Int); omega, by show (k : Int) < ((k + 1 : Nat) : Int); omega, h.1⟩
    · rcases ih with ih | ⟨rfl, ih⟩
      · exact ⟨ih.1, by omega, ih.2.2⟩
      · rw [ih]; exact ⟨by show (-1 : Int) ≤ -1; omega, by show (-1 : Int) < _; omega, by show 0 ≤ 100000; omega⟩

theorem bst_le (n : Nat) (xs : Nat → Int) (k : Nat) : -1 ≤ (bst n xs k).1 ∧ (bst n xs k).1 ≤ k ∧ (bst n xs k).2 ≤ 100000 := by
  rcases bst_in n xs k with h | ⟨rfl, h⟩
  · exact ⟨h.1, by omega, h.2.2⟩
  · rw [h]; exact ⟨by show (-1 : Int) ≤ -1; omega, by show (-1 : Int) ≤ _; omega, by show 0 ≤ 100000; omega⟩

theorem bst_yes {n k : Nat} {xs : Nat → Int} (h1 : rbt k xs n ≤ 100000) (h2 : (bst n xs k).1 < 0 ∨ rbt k xs n < (bst n xs k).2) : bst n xs (k + 1) = ((k : Int), rbt k xs n) := by
  rw [bst, if_pos ⟨h1, h2⟩]
theorem bst_no {n k : Nat} {xs : Nat → Int} (h : ¬ (rbt k xs n ≤ 100000 ∧ ((bst n xs k).1 < 0 ∨ rbt k xs n < (bst n xs k).2))) : bst n xs (k + 1) = bst n xs k := by
  rw [bst, if_neg h]

/-- What BestRice tells. -/
def brv (n : Nat) (xs : Nat → Int) : Int × Nat := if Rc n xs then bst n xs 31 else (-1, 0)

set_option maxHeartbeats 4000000 in
theorem iBest_good {w : World} {v : Value} {n : Nat} {xs : Nat → Int} (hv : Il w v n xs) (h : Rc n xs) : Calls Tryd.prog 11 #[v] w fun e w' => e = .returned (.tuple #[.int .i64 (brv n xs).1, .int .i64 ((brv n xs).2 : Int)]) ∧ w' = w := by
  have h5 := h.1
  have HR5 : Hid (Rc n xs) := h
  have HV : Hid (Il w v n xs) := hv
  have i1 := rice_any hv (by omega)
  rw [decide_eq_true h] at i1
  obtain ⟨X, Y, hxy⟩ : ∃ (X : Int) (Y : Nat), bst n xs 31 = (X, Y) := ⟨_, _, rfl⟩
  have hbv : brv n xs = (X, Y) := by unfold brv; rw [if_pos h]; exact hxy
  rw [hbv]
  have HXY : Hid (bst n xs 31 = (X, Y)) := hxy
  obtain ⟨ao, cap, rfl, hcap, hc⟩ := hv
  clear hc h hxy hbv
  go_enter Tryd.func11, Tryd.ntmps11
  go_wp2_with (first | (go_at_call 41; (with_reducible refine (i1).mono ?_); rintro e w' ⟨rfl, hw⟩; obtain rfl := hw.symm))
  clear i1
  go_loopw [4, 5, 6, 7, 11] (fun p q _ _ iv wr => ∃ (k : Nat) (B : Int) (C : Nat), iv = .int .i64 k ∧ p = .int .i64 B ∧ q = .int .i64 (C : Int) ∧ k ≤ 31 ∧ wr = w ∧ -1 ≤ B ∧ B ≤ 31 ∧ C ≤ 100000 ∧ Hid (bst n xs k = (B, C))) (fun _ _ _ _ iv _ => 31 - (intOf iv).toNat)
  case atStart => exact ⟨0, -1, 0, rfl, rfl, rfl, by omega, rfl, by omega, by omega, by omega, rfl⟩
  case round =>
    obtain ⟨k, B, C, rfl, rfl, rfl, hk, rfl, hB0, hB1, hC, hrel⟩ := hrel
    by_cases h1 : k < 31
    · have i3 := ibits_any HV.out HR5.out (k := k) (by omega)
      have hcb := rbt_le (k := k) (by omega) HR5.out.2 n (Nat.le_refl _)
      have HY : Hid (∀ (_ : rbt k xs n ≤ 100000) (_ : B < 0 ∨ rbt k xs n < C), bst n xs (k + 1) = ((k : Int), rbt k xs n)) := fun a1 a2 => bst_yes a1 (by rw [hrel.out]; exact a2)
      have HN : Hid (∀ (_ : ¬ (rbt k xs n ≤ 100000 ∧ (B < 0 ∨ rbt k xs n < C))), bst n xs (k + 1) = (B, C)) := fun a1 => (bst_no (by rw [hrel.out]; exact a1)).trans hrel.out
      clear hrel
      generalize rbt k xs n = c at *
      have hcc : (c : Int) ≤ 256000003968 := by omega
      by_cases hc1 : c ≤ 100000
      · by_cases hb : B < 0
        · have HR : Hid (bst n xs (k + 1) = ((k : Int), c)) := HY.out hc1 (.inl hb)
          clear HY HN
          go_wp2_with (first | (go_at_call 42; (with_reducible refine (i3).mono ?_); rintro e w' ⟨rfl, hw⟩; obtain rfl := hw.symm))
          go_roundw
          case rel => exact ⟨k + 1, (k : Int), c, by go_num, by go_num, by go_num, by omega, by trivial, by omega, by omega, by omega, HR.out⟩
          case measure => simp [intOf]; omega
        · by_cases hl : c < C
          · have HR : Hid (bst n xs (k + 1) = ((k : Int), c)) := HY.out hc1 (.inr hl)
            clear HY HN
            go_wp2_with (first | (go_at_call 42; (with_reducible refine (i3).mono ?_); rintro e w' ⟨rfl, hw⟩; obtain rfl := hw.symm))
            go_roundw
            case rel => exact ⟨k + 1, (k : Int), c, by go_num, by go_num, by go_num, by omega, by trivial, by omega, by omega, by omega, HR.out⟩
            case measure => simp [intOf]; omega
          · have HR : Hid (bst n xs (k + 1) = (B, C)) := HN.out (fun a => a.2.elim hb hl)
            clear HY HN
            go_wp2_with (first | (go_at_call 42; (with_reducible refine (i3).mono ?_); rintro e w' ⟨rfl, hw⟩; obtain rfl := hw.symm))
            go_roundw
            case rel => exact ⟨k + 1, B, C, by go_num, by go_num, by go_num, by omega, by trivial, by omega, by omega, by omega, HR.out⟩
            case measure => simp [intOf]; omega
      · have HR : Hid (bst n xs (k + 1) = (B, C)) := HN.out (fun a => hc1 a.1)
        clear HY HN
        go_wp2_with (first | (go_at_call 42; (with_reducible refine (i3).mono ?_); rintro e w' ⟨rfl, hw⟩; obtain rfl := hw.symm))
        go_roundw
        case rel => exact ⟨k + 1, B, C, by go_num, by go_num, by go_num, by omega, by trivial, by omega, by omega, by omega, HR.out⟩
        case measure => simp [intOf]; omega
    · obtain rfl : k = 31 := by omega
      have e9 := hrel.out.symm.trans HXY.out
      injection e9 with e7 e8
      subst e7 e8
      go_wp2
      go_ret2
      exact ⟨rfl, rfl⟩

set_option maxHeartbeats 4000000 in
theorem sBest_good {w : World} {v : Value} {n : Nat} {xs : Nat → Int} (hv : Il w v n xs) (h : Rc n xs) : Calls Tryd.prog 12 #[v] w fun e w' => e = .returned (.tuple #[.int .i64 (brv n xs).1, .int .i64 ((brv n xs).2 : Int)]) ∧ w' = w := by
  have h5 := h.1
  have HR5 : Hid (Rc n xs) := h
  have HV : Hid (Il w v n xs) := hv
  obtain ⟨X, Y, hxy⟩ : ∃ (X : Int) (Y : Nat), bst n xs 31 = (X, Y) := ⟨_, _, rfl⟩
  have hbv : brv n xs = (X, Y) := by unfold brv; rw [if_pos h]; exact hxy
  rw [hbv]
  have HXY : Hid (bst n xs 31 = (X, Y)) := hxy
  obtain ⟨ao, cap, rfl, hcap, hc⟩ := hv
  clear hc h hxy hbv
  go_enter Tryd.func12, Tryd.ntmps12
  go_wp2
  go_loopw [4, 5, 6, 7, 8] (fun p q iv _ _ wr => ∃ (k : Nat) (B : Int) (C : Nat), iv = .int .i64 k ∧ p = .int .i64 B ∧ q = .int .i64 (C : Int) ∧ k ≤ 31 ∧ wr = w ∧ -1 ≤ B ∧ B ≤ 31 ∧ C ≤ 100000 ∧ Hid (bst n xs k = (B, C))) (fun _ _ iv _ _ _ => 31 - (intOf iv).toNat)
  case atStart => exact ⟨0, -1, 0, rfl, rfl, rfl, by omega, rfl, by omega, by omega, by omega, rfl⟩
  case round =>
    obtain ⟨k, B, C, rfl, rfl, rfl, hk, rfl, hB0, hB1, hC, hrel⟩ := hrel
    by_cases h1 : k < 31
    · have i3 := smany_any HV.out HR5.out (k := k) (by omega)
      have hcb := rbt_le (k := k) (by omega) HR5.out.2 n (Nat.le_refl _)
      have HY : Hid (∀ (_ : rbt k xs n ≤ 100000) (_ : B < 0 ∨ rbt k xs n < C), bst n xs (k + 1) = ((k : Int), rbt k xs n)) := fun a1 a2 => bst_yes a1 (by rw [hrel.out]; exact a2)
      have HN : Hid (∀ (_ : ¬ (rbt k xs n ≤ 100000 ∧ (B < 0 ∨ rbt k xs n < C))), bst n xs (k + 1) = (B, C)) := fun a1 => (bst_no (by rw [hrel.out]; exact a1)).trans hrel.out
      clear hrel
      generalize rbt k xs n = c at *
      have hcc : (c : Int) ≤ 256000003968 := by omega
      by_cases hc1 : c ≤ 100000
      · by_cases hb : B < 0
        · have HR : Hid (bst n xs (k + 1) = ((k : Int), c)) := HY.out hc1 (.inl hb)
          clear HY HN
          go_wp2_with (first | (go_at_call 43; (with_reducible refine (i3).mono ?_); rintro e w' ⟨rfl, hw⟩; obtain rfl := hw.symm))
          go_roundw
          case rel => exact ⟨k + 1, (k : Int), c, by go_num, by go_num, by go_num, by omega, by trivial, by omega, by omega, by omega, HR.out⟩
          case measure => simp [intOf]; omega
        · by_cases hl : c < C
          · have HR : Hid (bst n xs (k + 1) = ((k : Int), c)) := HY.out hc1 (.inr hl)
            clear HY HN
            go_wp2_with (first | (go_at_call 43; (with_reducible refine (i3).mono ?_); rintro e w' ⟨rfl, hw⟩; obtain rfl := hw.symm))
            go_roundw
            case rel => exact ⟨k + 1, (k : Int), c, by go_num, by go_num, by go_num, by omega, by trivial, by omega, by omega, by omega, HR.out⟩
            case measure => simp [intOf]; omega
          · have HR : Hid (bst n xs (k + 1) = (B, C)) := HN.out (fun a => a.2.elim hb hl)
            clear HY HN
            go_wp2_with (first | (go_at_call 43; (with_reducible refine (i3).mono ?_); rintro e w' ⟨rfl, hw⟩; obtain rfl := hw.symm))
            go_roundw
            case rel => exact ⟨k + 1, B, C, by go_num, by go_num, by go_num, by omega, by trivial, by omega, by omega, by omega, HR.out⟩
            case measure => simp [intOf]; omega
      · have HR : Hid (bst n xs (k + 1) = (B, C)) := HN.out (fun a => hc1 a.1)
        clear HY HN
        go_wp2_with (first | (go_at_call 43; (with_reducible refine (i3).mono ?_); rintro e w' ⟨rfl, hw⟩; obtain rfl := hw.symm))
        go_roundw
        case rel => exact ⟨k + 1, B, C, by go_num, by go_num, by go_num, by omega, by trivial, by omega, by omega, by omega, HR.out⟩
        case measure => simp [intOf]; omega
    · obtain rfl : k = 31 := by omega
      have e9 := hrel.out.symm.trans HXY.out
      injection e9 with e7 e8
      subst e7 e8
      go_wp2
      go_ret2
      exact ⟨rfl, rfl⟩

theorem iBest_bad {w : World} {v : Value} {n : Nat} {xs : Nat → Int} (hv : Il w v n xs) (hn : n ≤ 1048576) (h : ¬ Rc n xs) : Calls Tryd.prog 11 #[v] w fun e w' => e = .returned (.tuple #[.int .i64 (brv n xs).1, .int .i64 ((brv n xs).2 : Int)]) ∧ w' = w := by
  have i1 := rice_any hv hn
  rw [decide_eq_false h] at i1
  rw [show brv n xs = (-1, 0) by unfold brv; rw [if_neg h]]
  obtain ⟨ao, cap, rfl, hcap, hc⟩ := hv
  clear hc h
  go_enter Tryd.func11, Tryd.ntmps11
  go_wp2_with (first | (go_at_call 41; (with_reducible refine (i1).mono ?_); rintro e w' ⟨rfl, hw⟩; obtain rfl := hw.symm))
  go_ret2
  exact ⟨rfl, rfl⟩

set_option maxHeartbeats 2000000 in
theorem sBest_bad {w : World} {v : Value} {n : Nat} {xs : Nat → Int} (hv : Il w v n xs) (hn : n ≤ 1048576) (h : ¬ Rc n xs) : Calls Tryd.prog 12 #[v] w fun e w' => e = .returned (.tuple #[.int .i64 (brv n xs).1, .int .i64 ((brv n xs).2 : Int)]) ∧ w' = w := by
  have HR5 : Hid (¬ Rc n xs) := h
  have HV : Hid (Il w v n xs) := hv
  rw [show brv n xs = (-1, 0) by unfold brv; rw [if_neg h]]
  obtain ⟨ao, cap, rfl, hcap, hc⟩ := hv
  clear hc h
  go_enter Tryd.func12, Tryd.ntmps12
  go_wp2
  go_loopw [4, 5, 6, 7, 8] (fun p q iv _ _ wr => ∃ (k : Nat), iv = .int .i64 k ∧ p = .int .i64 (-1) ∧ q = .int .i64 0 ∧ k ≤ 31 ∧ wr = w) (fun _ _ iv _ _ _ => 31 - (intOf iv).toNat)
  case atStart => exact ⟨0, rfl, rfl, rfl, by omega, rfl⟩
  case round =>
    obtain ⟨k, rfl, rfl, rfl, hk, rfl⟩ := hrel
    by_cases h1 : k < 31
    · have i3 := smany_bad HV.out hn (k := (k : Int)) (fun h => HR5.out h.2)
      go_wp2_with (first | (go_at_call 43; (with_reducible refine (i3).mono ?_); rintro e w' ⟨rfl, hw⟩; obtain rfl := hw.symm))
      go_roundw
      case rel => exact ⟨k + 1, by go_num, rfl, rfl, by omega, by trivial⟩
      case measure => simp [intOf]; omega
    · obtain rfl : k = 31 := by omega
      go_wp2
      go_ret2
      exact ⟨rfl, rfl⟩

theorem iBest_any {w : World} {v : Value} {n : Nat} {xs : Nat → Int} (hv : Il w v n xs) (hn : n ≤ 1048576) : Calls Tryd.prog 11 #[v] w fun e w' => e = .returned (.tuple #[.int .i64 (brv n xs).1, .int .i64 ((brv n xs).2 : Int)]) ∧ w' = w := by
  by_cases h : Rc n xs
  · exact iBest_good hv h
  · exact iBest_bad hv hn h

theorem sBest_any {w : World} {v : Value} {n : Nat} {xs : Nat → Int} (hv : Il w v n xs) (hn : n ≤ 1048576) : Calls Tryd.prog 12 #[v] w fun e w' => e = .returned (.tuple #[.int .i64 (brv n xs).1, .int .i64 ((brv n xs).2 : Int)]) ∧ w' = w := by
  by_cases h : Rc n xs
  · exact sBest_good hv h
  · exact sBest_bad hv hn h
end Go.Proofs.YtndagpompioooaaDoor
