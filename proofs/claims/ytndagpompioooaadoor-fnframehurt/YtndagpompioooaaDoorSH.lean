/- The best order: the model. -/
import Derived.Test.YtndagpompioooaaDoorGW
import Derived.Test.YtndagpompioooaaDoorRB
namespace Go.Proofs.YtndagpompioooaaDoor
open Go.RowKit

/-- The best k, where there is one. -/
theorem bst_told {n : Nat} {xs : Nat → Int} (K : Nat) (h : 0 ≤ (bst n xs K).1) : ∃ k : Nat, k < K ∧ (bst n xs K).1 = (k : Int) ∧ (bst n xs K).2 = rbt k xs n ∧ rbt k xs n ≤ 100000 := by
  induction K with
  | zero => exact absurd h (by show ¬ (0 : Int) ≤ -1; omega)
  | succ K ih =>
    by_cases h1 : rbt K xs n ≤ 100000 ∧ ((bst n xs K).1 < 0 ∨ rbt K xs n < (bst n xs K).2)
    · refine ⟨K, by omega, ?_, ?_, h1.1⟩ <;> rw [bst_yes h1.1 h1.2]
    · rw [bst_no h1] at h ⊢
      obtain ⟨k, h2, h3⟩ := ih h
      exact ⟨k, by omega, h3⟩

theorem brv_told {n : Nat} {xs : Nat → Int} (h : 0 ≤ (brv n xs).1) : Rc n xs ∧ ∃ k : Nat, k ≤ 30 ∧ (brv n xs).1 = (k : Int) ∧ (brv n xs).2 = rbt k xs n ∧ rbt k xs n ≤ 100000 := by
  unfold brv at h ⊢
  by_cases hr : Rc n xs
  · rw [if_pos hr] at h ⊢
    obtain ⟨k, h1, h2⟩ := bst_told 31 h
    exact ⟨hr, k, by omega, h2⟩
  · rw [if_neg hr] at h
    exact absurd h (by show ¬ (0 : Int) ≤ -1; omega)

theorem brv_in (n : Nat) (xs : Nat → Int) : -1 ≤ (brv n xs).1 ∧ (brv n xs).1 ≤ 31 ∧ (brv n xs).2 ≤ 100000 := by
  unfold brv
  by_cases hr : Rc n xs
  · rw [if_pos hr]; have := bst_le n xs 31; exact ⟨this.1, by omega, this.2.2⟩
  · rw [if_neg hr]; exact ⟨by show (-1 : Int) ≤ -1; omega, by show (-1 : Int) ≤ 31; omega, by show 0 ≤ 100000; omega⟩

/-- The best order below q, its k, and how many bits that has. -/
def shp (n : Nat) (xs : Nat → Int) : Nat → Int × Int × Nat
  | 0 => (-1, 0, 0)
  | o + 1 => if 0 ≤ (brv n (gus o xs)).1 ∧ ((shp n xs o).1 < 0 ∨ (brv n (gus o xs)).2 < (shp n xs o).2.2) then ((o : Int), (brv n (gus o xs)).1, (brv n (gus o xs)).2) else shp n xs o

theorem shp_yes {n o : Nat} {xs : Nat → Int} (h1 : 0 ≤ (brv n (gus o xs)).1) (h2 : (shp n xs o).1 < 0 ∨ (brv n (gus o xs)).2 < (shp n xs o).2.2) : shp n xs (o + 1) = ((o : Int), (brv n (gus o xs)).1, (brv n (gus o xs)).2) := by
  rw [shp, if_pos ⟨h1, h2⟩]
theorem shp_no {n o : Nat} {xs : Nat → Int} (h : ¬ (0 ≤ (brv n (gus o xs)).1 ∧ ((shp n xs o).1 < 0 ∨ (brv n (gus o xs)).2 < (shp n xs o).2.2))) : shp n xs (o + 1) = shp n xs o := by
  rw [shp, if_neg h]

theorem shp_told {n : Nat} {xs : Nat → Int} (q : Nat) : shp n xs q = (-1, 0, 0) ∨ ∃ (o k : Nat) (C : Nat), shp n xs q = ((o : Int), (k : Int), C) ∧ o < q ∧ k ≤ 30 ∧ C ≤ 100000 ∧ C = rbt k (gus o xs) n ∧ Rc n (gus o xs) := by
  induction q with
  | zero => exact .inl rfl
  | succ q ih =>
    by_cases h : 0 ≤ (brv n (gus q xs)).1 ∧ ((shp n xs q).1 < 0 ∨ (brv n (gus q xs)).2 < (shp n xs q).2.2)
    · right
      obtain ⟨hr, k, h1, h2, h3, h4⟩ := brv_told h.1
      refine ⟨q, k, _, ?_, by omega, h1, ?_, h3, hr⟩
      · rw [shp_yes h.1 h.2, h2]
      · rw [h3]; exact h4
    · rw [shp_no h]
      rcases ih with ih | ⟨o, k, C, h1, h2, h3⟩
      · exact .inl ih
      · exact .inr ⟨o, k, C, h1, by omega, h3⟩

set_option maxRecDepth 20000 in
set_option maxHeartbeats 8000000 in
theorem order17_any {w : World} {v : Value} {n : Nat} {xs : Nat → Int} (hv : Il w v n xs) (h : Sig n xs) (hn : n ≤ 128) {q : Nat} (hq : q = min n 4) : Calls Tryd.prog 66 #[v] w fun e w' => e = .returned (.tuple #[.int .i64 (shp n xs q).1, .int .i64 (shp n xs q).2.1, .bool (decide (0 ≤ (shp n xs q).1))]) ∧ Below w.heap.size w w' := by
  have HS : Hid (Sig n xs) := h
  have HV : Hid (Il w v n xs) := hv
  obtain ⟨X, Y, Z, hxy⟩ : ∃ (X Y : Int) (Z : Nat), shp n xs q = (X, Y, Z) := ⟨_, _, _, rfl⟩
  rw [hxy]
  have HXY : Hid (shp n xs q = (X, Y, Z)) := hxy
  have hq4 : q ≤ 4 ∧ q ≤ n ∧ (n ≤ q ∨ 4 ≤ q) := by omega
  obtain ⟨ao, cap, rfl, hcap, hc⟩ := hv
  clear hc h hxy hq
  go_enter Tryd.func66, Tryd.ntmps66
  go_wp2
  go_loopw [5, 6, 7, 8, 9, 10, 11, 12] (fun p k m iv _ _ _ _ wr => ∃ (o : Nat) (P Q : Int) (R : Nat), iv = .int .i64 o ∧ p = .int .i64 P ∧ k = .int .i64 Q ∧ m = .int .i64 (R : Int) ∧ o ≤ q ∧ -1 ≤ P ∧ P ≤ 4 ∧ -1 ≤ Q ∧ Q ≤ 31 ∧ Hid (shp n xs o = (P, Q, R)) ∧ Hid (Il wr (.slice ao n cap) n xs) ∧ Hid (Below w.heap.size w wr)) (fun _ _ _ iv _ _ _ _ _ => q - (intOf iv).toNat)
  case atStart => exact ⟨0, -1, 0, 0, rfl, rfl, rfl, rfl, by omega, by omega, by omega, by omega, by omega, rfl, HV.out, Below.refl _ _⟩
  case round =>
    clear HV
    obtain ⟨o, P, Q, R, rfl, rfl, rfl, rfl, hoq, hP0, hP1, hQ0, hQ1, hrel, HV, BW⟩ := hrel
    by_cases h1 : o < q
    · obtain ⟨B, C, hbc⟩ : ∃ (B : Int) (C : Nat), brv n (gus o xs) = (B, C) := ⟨_, _, rfl⟩
      have hbi := brv_in n (gus o xs)
      have HY : Hid (∀ (_ : 0 ≤ B) (_ : P < 0 ∨ C < R), shp n xs (o + 1) = ((o : Int), B, C)) := fun a1 a2 => by
        have := shp_yes (n := n) (o := o) (xs := xs) (by rw [hbc]; exact a1) (by rw [hbc, hrel.out]; exact a2)
        rw [hbc] at this
        exact this
      have HN : Hid (∀ (_ : ¬ (0 ≤ B ∧ (P < 0 ∨ C < R))), shp n xs (o + 1) = (P, Q, R)) := fun a1 => (shp_no (by rw [hbc, hrel.out]; exact a1)).trans hrel.out
      have HB9 : Hid (brv n (gus o xs) = (B, C)) := hbc
      rw [hbc] at hbi
      obtain ⟨hb0, hb1, hb2⟩ : -1 ≤ B ∧ B ≤ 31 ∧ C ≤ 100000 := hbi
      clear hrel hbc
      by_cases hB : 0 ≤ B
      · by_cases hP : P < 0
        · have HR : Hid (shp n xs (o + 1) = ((o : Int), B, C)) := HY.out hB (.inl hP)
          clear HY HN
          go_wp2_with (first
            | (go_at_call 67; refine (sGuess_good HV.out HS.out (by omega)).mono ?_; rintro e w2 ⟨x2, rfl, hq, hb⟩; have HL : Hid (Il w2 x2 n (gus o xs)) := il_of_own hq; have HV : Hid (Il w2 (.slice ao n cap) n xs) := HV.out.below hb; have BW : Hid (Below w.heap.size w w2) := bstep BW.out hb; clear hq hb)
            | (go_at_call 12; refine (sBest_any HL.out (by omega)).mono ?_; rw [HB9.out]; rintro e w' ⟨rfl, hw⟩; obtain rfl := hw.symm))
          go_roundw
          case rel => exact ⟨o + 1, (o : Int), B, C, by go_num, by go_num, by go_num, by go_num, by omega, by omega, by omega, by omega, by omega, HR.out, HV.out, BW.out⟩
          case measure => simp [intOf]; omega
        · by_cases hl : C < R
          · have HR : Hid (shp n xs (o + 1) = ((o : Int), B, C)) := HY.out hB (.inr hl)
            clear HY HN
            go_wp2_with (first
              | (go_at_call 67; refine (sGuess_good HV.out HS.out (by omega)).mono ?_; rintro e w2 ⟨x2, rfl, hq, hb⟩; have HL : Hid (Il w2 x2 n (gus o xs)) := il_of_own hq; have HV : Hid (Il w2 (.slice ao n cap) n xs) := HV.out.below hb; have BW : Hid (Below w.heap.size w w2) := bstep BW.out hb; clear hq hb)
              | (go_at_call 12; refine (sBest_any HL.out (by omega)).mono ?_; rw [HB9.out]; rintro e w' ⟨rfl, hw⟩; obtain rfl := hw.symm))
            go_roundw
            case rel => exact ⟨o + 1, (o : Int), B, C, by go_num, by go_num, by go_num, by go_num, by omega, by omega, by omega, by omega, by omega, HR.out, HV.out, BW.out⟩
            case measure => simp [intOf]; omega
          · have HR : Hid (shp n xs (o + 1) = (P, Q, R)) := HN.out (fun a => a.2.elim hP hl)
            clear HY HN
            go_wp2_with (first
              | (go_at_call 67; refine (sGuess_good HV.out HS.out (by omega)).mono ?_; rintro e w2 ⟨x2, rfl, hq, hb⟩; have HL : Hid (Il w2 x2 n (gus o xs)) := il_of_own hq; have HV : Hid (Il w2 (.slice ao n cap) n xs) := HV.out.below hb; have BW : Hid (Below w.heap.size w w2) := bstep BW.out hb; clear hq hb)
              | (go_at_call 12; refine (sBest_any HL.out (by omega)).mono ?_; rw [HB9.out]; rintro e w' ⟨rfl, hw⟩; obtain rfl := hw.symm))
            go_roundw
            case rel => exact ⟨o + 1, P, Q, R, by go_num, by go_num, by go_num, by go_num, by omega, by omega, by omega, by omega, by omega, HR.out, HV.out, BW.out⟩
            case measure => simp [intOf]; omega
      · have HR : Hid (shp n xs (o + 1) = (P, Q, R)) := HN.out (fun a => hB a.1)
        clear HY HN
        go_wp2_with (first
          | (go_at_call 67; refine (sGuess_good HV.out HS.out (by omega)).mono ?_; rintro e w2 ⟨x2, rfl, hq, hb⟩; have HL : Hid (Il w2 x2 n (gus o xs)) := il_of_own hq; have HV : Hid (Il w2 (.slice ao n cap) n xs) := HV.out.below hb; have BW : Hid (Below w.heap.size w w2) := bstep BW.out hb; clear hq hb)
          | (go_at_call 12; refine (sBest_any HL.out (by omega)).mono ?_; rw [HB9.out]; rintro e w' ⟨rfl, hw⟩; obtain rfl := hw.symm))
        go_roundw
        case rel => exact ⟨o + 1, P, Q, R, by go_num, by go_num, by go_num, by go_num, by omega, by omega, by omega, by omega, by omega, HR.out, HV.out, BW.out⟩
        case measure => simp [intOf]; omega
    · obtain rfl : o = q := by omega
      have e9 := hrel.out.symm.trans HXY.out
      injection e9 with e7 e8
      injection e8 with e5 e6
      subst e7 e5 e6
      clear hrel HXY
      by_cases h4 : o = 4
      · subst h4
        go_wp2
        go_ret3
        exact ⟨rfl, BW.out⟩
      · obtain rfl : o = n := by omega
        go_wp2
        go_ret3
        exact ⟨rfl, BW.out⟩
end Go.Proofs.YtndagpompioooaaDoor
