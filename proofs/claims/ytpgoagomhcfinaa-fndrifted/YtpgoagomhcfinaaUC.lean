/- Rates: Down, both sides. -/
import Derived.Test.YtpgoagomhcfinaaUA
namespace Go.Proofs.Ytpgoagomhcfinaa
open Go.RowKit

/-- Good for Down. -/
abbrev GDn (n : Nat) (xs : Nat → Int) (b p : Int) : Prop := Sig n xs ∧ Rte b ∧ 0 ≤ p ∧ p ≤ b - 1

set_option maxHeartbeats 4000000 in
theorem iDown_good {w : World} {v : Value} {n m p : Nat} {xs : Nat → Int} (hv : Il w v n xs) (h : GDn n xs (m : Int) (p : Int)) :
    Calls Try.prog 9 #[v, .int .i64 (m : Int), .int .i64 (p : Int)] w fun e w' => Pst w w' e (dN n m p) (thF m p xs) true := by
  obtain ⟨h1, h2, h3, h4⟩ := h
  have h5 := h1.1
  have i1 := iSig_any hv (by omega)
  rw [decide_eq_true h1] at i1
  have i2 := iRte_any (m : Int)
  rw [decide_eq_true h2] at i2
  have i3 := thin_any hv (by omega) (show m ≤ 1000 by omega) (show p < m by omega)
  obtain ⟨ao, cap, rfl, hcap, hc⟩ := hv
  clear hc h1
  go_enter Try.func9, Try.ntmps9
  go_wp2_with (first
    | (go_at_call 18; (with_reducible refine (i1).mono ?_); rintro e w' ⟨rfl, hw⟩; obtain rfl := hw.symm)
    | (go_at_call 21; (with_reducible refine (i2 _).mono ?_); rintro e w' ⟨rfl, hw⟩; obtain rfl := hw.symm)
    | (go_at_call 22; (with_reducible refine i3.mono ?_); rintro e w1 ⟨u, rfl, ho, hb⟩; have HO : Hid (w1.ownsRow w.heap.size 3 1 u (dN n m p) (ils (thF m p xs) (dN n m p)) ∧ Below w.heap.size w w1) := ⟨ho, hb⟩; clear ho hb))
  go_ret2
  exact ⟨_, rfl, HO.out.1, HO.out.2⟩

set_option maxHeartbeats 2000000 in
theorem iDown_bad {w : World} {v : Value} {n : Nat} {xs : Nat → Int} {b p : Int} (hv : Il w v n xs) (hn : n ≤ 1048576) (h : ¬ GDn n xs b p) (ys : Nat → Int) :
    Calls Try.prog 9 #[v, .int .i64 b, .int .i64 p] w fun e w' => Pst w w' e 0 ys false := by
  have i1 := iSig_any hv hn
  have i2 := iRte_any b
  obtain ⟨ao, cap, rfl, hcap, hc⟩ := hv
  clear hc
  by_cases c1 : Sig n xs
  · rw [decide_eq_true c1] at i1
    by_cases c2 : Rte b
    · rw [decide_eq_true c2] at i2
      by_cases c3 : 0 ≤ p
      · skip
        have c4 : ¬ (p ≤ b - 1) := fun c4 => h ⟨c1, c2, c3, c4⟩
        clear h c1
        go_enter Try.func9, Try.ntmps9
        go_wp2_with (first | (go_at_call 18; (with_reducible refine (i1).mono ?_); rintro e w' ⟨rfl, hw⟩; obtain rfl := hw.symm) | (go_at_call 21; (with_reducible refine (i2 _).mono ?_); rintro e w' ⟨rfl, hw⟩; obtain rfl := hw.symm))
        go_ret2
        exact ⟨_, rfl, own_empty w 3 1, below_one _ _⟩
      · skip
        clear h c1
        go_enter Try.func9, Try.ntmps9
        go_wp2_with (first | (go_at_call 18; (with_reducible refine (i1).mono ?_); rintro e w' ⟨rfl, hw⟩; obtain rfl := hw.symm) | (go_at_call 21; (with_reducible refine (i2 _).mono ?_); rintro e w' ⟨rfl, hw⟩; obtain rfl := hw.symm))
        go_ret2
        exact ⟨_, rfl, own_empty w 3 1, below_one _ _⟩
    · rw [decide_eq_false c2] at i2
      clear h c1
      go_enter Try.func9, Try.ntmps9
      go_wp2_with (first | (go_at_call 18; (with_reducible refine (i1).mono ?_); rintro e w' ⟨rfl, hw⟩; obtain rfl := hw.symm) | (go_at_call 21; (with_reducible refine (i2 _).mono ?_); rintro e w' ⟨rfl, hw⟩; obtain rfl := hw.symm))
      go_ret2
      exact ⟨_, rfl, own_empty w 3 1, below_one _ _⟩
  · rw [decide_eq_false c1] at i1
    clear h c1
    clear i2
    go_enter Try.func9, Try.ntmps9
    go_wp2_with (first | (go_at_call 18; (with_reducible refine (i1).mono ?_); rintro e w' ⟨rfl, hw⟩; obtain rfl := hw.symm))
    go_ret2
    exact ⟨_, rfl, own_empty w 3 1, below_one _ _⟩
end Go.Proofs.Ytpgoagomhcfinaa
