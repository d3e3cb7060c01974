/- Rice: what is refused. -/
import Derived.Test.YtndagpompioooaaDoorRD
import Derived.Test.YtndagpompioooaaDoorPST
namespace Go.Proofs.YtndagpompioooaaDoor
open Go.RowKit

theorem iRice_bad {w : World} {v : Value} {n : Nat} {xs : Nat → Int} (hv : Il w v n xs) (hn : n ≤ 1048576) {k : Int} (h : ¬ (((0 ≤ k ∧ k ≤ 30) ∧ Rc n xs) ∧ rbt k.toNat xs n ≤ 100000)) (ys : Nat → Int) : Calls Tryd.prog 13 #[.int .i64 k, v] w fun e w' => Pst w w' e 0 ys false := by
  by_cases h1 : 0 ≤ k ∧ k ≤ 30
  · by_cases h2 : Rc n xs
    · obtain ⟨q, rfl⟩ : ∃ q : Nat, k = (q : Int) := ⟨k.toNat, by omega⟩
      have h3 : ¬ rbt q xs n ≤ 100000 := fun h3 => h ⟨⟨h1, h2⟩, h3⟩
      have i1 := rice_any (hv.below (below_one w (.cells #[] 3))) (by omega)
      rw [decide_eq_true h2] at i1
      have i2 := low_any (q : Int)
      rw [decide_eq_true h1] at i2
      have i3 := ibits_any (hv.below (below_one w (.cells #[] 3))) h2 (k := q) (by omega)
      have hle := rbt_le (k := q) (by omega) h2.2 n (Nat.le_refl _)
      have h5 := h2.1
      generalize rbt q xs n = S0 at i3 h3 hle
      obtain ⟨ao, cap, rfl, hcap, hc⟩ := hv
      clear hc h h2
      go_enter Tryd.func13, Tryd.ntmps13
      go_wp2_with (first | (go_at_call 41; (with_reducible refine (i1).mono ?_); rintro e w' ⟨rfl, hw⟩; obtain rfl := hw.symm) | (go_at_call 44; (with_reducible refine (i2 _).mono ?_); rintro e w' ⟨rfl, hw⟩; obtain rfl := hw.symm) | (go_at_call 42; (with_reducible refine (i3).mono ?_); rintro e w' ⟨rfl, hw⟩; obtain rfl := hw.symm))
      go_ret2
      exact ⟨_, rfl, own_empty w 3 1, below_one _ _⟩
    · have i1 := rice_any (hv.below (below_one w (.cells #[] 3))) (by omega)
      rw [decide_eq_false h2] at i1
      have i2 := low_any k
      rw [decide_eq_true h1] at i2
      obtain ⟨ao, cap, rfl, hcap, hc⟩ := hv
      clear hc h h2
      go_enter Tryd.func13, Tryd.ntmps13
      go_wp2_with (first | (go_at_call 41; (with_reducible refine (i1).mono ?_); rintro e w' ⟨rfl, hw⟩; obtain rfl := hw.symm) | (go_at_call 44; (with_reducible refine (i2 _).mono ?_); rintro e w' ⟨rfl, hw⟩; obtain rfl := hw.symm))
      go_ret2
      exact ⟨_, rfl, own_empty w 3 1, below_one _ _⟩
  · have i2 := low_any k
    rw [decide_eq_false h1] at i2
    obtain ⟨ao, cap, rfl, hcap, hc⟩ := hv
    clear hc h
    go_enter Tryd.func13, Tryd.ntmps13
    go_wp2_with (first | (go_at_call 44; (with_reducible refine (i2 _).mono ?_); rintro e w' ⟨rfl, hw⟩; obtain rfl := hw.symm))
    go_ret2
    exact ⟨_, rfl, own_empty w 3 1, below_one _ _⟩

theorem sRice_bad {w : World} {v : Value} {n : Nat} {xs : Nat → Int} (hv : Il w v n xs) (hn : n ≤ 1048576) {k : Int} (h : ¬ (((0 ≤ k ∧ k ≤ 30) ∧ Rc n xs) ∧ rbt k.toNat xs n ≤ 100000)) (ys : Nat → Int) : Calls Tryd.prog 14 #[.int .i64 k, v] w fun e w' => Pst w w' e 0 ys false := by
  by_cases h1 : (0 ≤ k ∧ k ≤ 30) ∧ Rc n xs
  · obtain ⟨q, rfl⟩ : ∃ q : Nat, k = (q : Int) := ⟨k.toNat, by omega⟩
    have h3 : ¬ rbt q xs n ≤ 100000 := fun h3 => h ⟨h1, h3⟩
    have i1 := smany_any hv h1.2 (k := q) (by omega)
    rw [decide_eq_false (by omega)] at i1
    generalize rbt q xs n = S0 at i1 h3
    obtain ⟨ao, cap, rfl, hcap, hc⟩ := hv
    clear hc h h1
    go_enter Tryd.func14, Tryd.ntmps14
    go_wp2_with (first | (go_at_call 43; (with_reducible refine (i1).mono ?_); rintro e w' ⟨rfl, hw⟩; obtain rfl := hw.symm))
    go_ret2
    exact ⟨_, rfl, own_empty w 3 1, below_one _ _⟩
  · have i1 := smany_bad hv hn h1
    obtain ⟨ao, cap, rfl, hcap, hc⟩ := hv
    clear hc h h1
    go_enter Tryd.func14, Tryd.ntmps14
    go_wp2_with (first | (go_at_call 43; (with_reducible refine (i1).mono ?_); rintro e w' ⟨rfl, hw⟩; obtain rfl := hw.symm))
    go_ret2
    exact ⟨_, rfl, own_empty w 3 1, below_one _ _⟩
end Go.Proofs.YtndagpompioooaaDoor
