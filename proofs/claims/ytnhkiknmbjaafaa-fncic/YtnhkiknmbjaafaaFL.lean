/- Fir: the model's refusals; the law. -/
import Derived.Test.YtnhkiknmbjaafaaFK
namespace Go.Proofs.Ytnhkiknmbjaafaa
open Go.RowKit

set_option maxHeartbeats 4000000 in
theorem sFir_bad {w : World} {tv sv lv : Value} {n m N : Nat} {f st xs : Nat → Int} (ht : Il w tv n f) (hs : Il w sv m st) (hl : Il w lv N xs) (hn : n ≤ 1048576) (hm : m ≤ 1048576) (hN : N ≤ 1048576) (h : ¬ GF n m N f st xs) (ys zs : Nat → Int) :
    Calls Try.prog 10 #[tv, sv, lv] w fun e w' => P3 w w' e 0 0 ys zs false := by
  have i1 := sTaps_any ht hn
  have i2 := sSig_any hl hN
  have i3 := sSig_any hs hm
  have T0 : Hid _ := two_none w ys zs
  obtain ⟨so, sc, rfl, _, hc1⟩ := hs
  obtain ⟨ao, tc, rfl, _, hc2⟩ := ht
  obtain ⟨lo, lc, rfl, _, hc3⟩ := hl
  clear hc1 hc2 hc3
  by_cases h1 : (1 ≤ n ∧ n ≤ 64) ∧ Wth 1000000 n f
  · rw [decide_eq_true h1] at i1
    by_cases h2 : Sig N xs
    · rw [decide_eq_true h2] at i2
      by_cases h3 : Sig m st
      · rw [decide_eq_true h3] at i3
        have hne : ¬ ((m : Int) = (n : Int) - 1) := fun e => h ⟨⟨h1, h3, by omega⟩, h2⟩
        have hne' : ((m : Int) != (n : Int) - 1) = true := bne_iff_ne.2 hne
        have l0 := h1.1
        clear h h1 h2 h3
        go_enter Try.func10, Try.ntmps10
        go_wp2_with (first | (go_at_call 26; (with_reducible refine i1.mono ?_); rintro e w' ⟨rfl, hw⟩; obtain rfl := hw.symm) | (go_at_call 11; (with_reducible refine i2.mono ?_); rintro e w' ⟨rfl, hw⟩; obtain rfl := hw.symm) | (go_at_call 11; (with_reducible refine i3.mono ?_); rintro e w' ⟨rfl, hw⟩; obtain rfl := hw.symm))
        go_ret3
        exact ⟨_, _, rfl, T0.out.1, T0.out.2.1, T0.out.2.2.1, T0.out.2.2.2⟩
      · rw [decide_eq_false h3] at i3
        clear h h1 h2 h3
        go_enter Try.func10, Try.ntmps10
        go_wp2_with (first | (go_at_call 26; (with_reducible refine i1.mono ?_); rintro e w' ⟨rfl, hw⟩; obtain rfl := hw.symm) | (go_at_call 11; (with_reducible refine i2.mono ?_); rintro e w' ⟨rfl, hw⟩; obtain rfl := hw.symm) | (go_at_call 11; (with_reducible refine i3.mono ?_); rintro e w' ⟨rfl, hw⟩; obtain rfl := hw.symm))
        go_ret3
        exact ⟨_, _, rfl, T0.out.1, T0.out.2.1, T0.out.2.2.1, T0.out.2.2.2⟩
    · rw [decide_eq_false h2] at i2
      clear h h1 h2 i3
      go_enter Try.func10, Try.ntmps10
      go_wp2_with (first | (go_at_call 26; (with_reducible refine i1.mono ?_); rintro e w' ⟨rfl, hw⟩; obtain rfl := hw.symm) | (go_at_call 11; (with_reducible refine i2.mono ?_); rintro e w' ⟨rfl, hw⟩; obtain rfl := hw.symm))
      go_ret3
      exact ⟨_, _, rfl, T0.out.1, T0.out.2.1, T0.out.2.2.1, T0.out.2.2.2⟩
  · rw [decide_eq_false h1] at i1
    clear h h1 i2 i3
    go_enter Try.func10, Try.ntmps10
    go_wp2_with (first | (go_at_call 26; (with_reducible refine i1.mono ?_); rintro e w' ⟨rfl, hw⟩; obtain rfl := hw.symm))
    go_ret3
    exact ⟨_, _, rfl, T0.out.1, T0.out.2.1, T0.out.2.2.1, T0.out.2.2.2⟩

end Go.Proofs.Ytnhkiknmbjaafaa
