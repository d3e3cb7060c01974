/- Unlift: the law. -/
import Derived.Test.YtbcjbighipeafaaFD
namespace Go.Proofs.Ytbcjbighipeafaa
open Go.RowKit

set_option maxHeartbeats 4000000 in
theorem sUnlift_bad {w : World} {v : Value} {n : Nat} {xs : Nat → Int} {kind lev : Int} (hv : Il w v n xs) (hn : n ≤ 1048576) (g : ¬ (Knd kind ∧ n ≤ 512 ∧ Wth 8000000000 n xs ∧ 0 ≤ lev ∧ lev ≤ 8)) (ys : Nat → Int) :
    Calls Try.prog 14 #[.int .i64 kind, v, .int .i64 lev] w fun e w' => Pst w w' e 0 ys false := by
  have i1 := sKind_any kind
  have i2 := sWide_any hv hn
  have i3 := in_any lev 0 8
  obtain ⟨ao, cap, rfl, hcap, hc⟩ := hv
  clear hc
  by_cases hk : Knd kind
  · rw [decide_eq_true hk] at i1
    by_cases h5 : n ≤ 512
    · by_cases hs : Wth 8000000000 n xs
      · rw [decide_eq_true hs] at i2
        rw [decide_eq_false (fun hl => g ⟨hk, h5, hs, hl⟩)] at i3
        clear g hk hs
        go_enter Try.func14, Try.ntmps14
        go_wp2_with (first | (go_at_call 31; (with_reducible refine (i1 _).mono ?_); rintro e w' ⟨rfl, hw⟩; obtain rfl := hw.symm) | (go_at_call 33; (with_reducible refine i2.mono ?_); rintro e w' ⟨rfl, hw⟩; obtain rfl := hw.symm) | (go_at_call 32; (with_reducible refine (i3 _).mono ?_); rintro e w' ⟨rfl, hw⟩; obtain rfl := hw.symm))
        go_ret2
        exact ⟨_, rfl, own_empty w 3 1, below_one _ _⟩
      · rw [decide_eq_false hs] at i2
        clear g hk hs i3
        go_enter Try.func14, Try.ntmps14
        go_wp2_with (first | (go_at_call 31; (with_reducible refine (i1 _).mono ?_); rintro e w' ⟨rfl, hw⟩; obtain rfl := hw.symm) | (go_at_call 33; (with_reducible refine i2.mono ?_); rintro e w' ⟨rfl, hw⟩; obtain rfl := hw.symm))
        go_ret2
        exact ⟨_, rfl, own_empty w 3 1, below_one _ _⟩
    · clear g hk i2 i3
      go_enter Try.func14, Try.ntmps14
      go_wp2_with (first | (go_at_call 31; (with_reducible refine (i1 _).mono ?_); rintro e w' ⟨rfl, hw⟩; obtain rfl := hw.symm))
      go_ret2
      exact ⟨_, rfl, own_empty w 3 1, below_one _ _⟩
  · rw [decide_eq_false hk] at i1
    clear g hk i2 i3
    go_enter Try.func14, Try.ntmps14
    go_wp2_with (first | (go_at_call 31; (with_reducible refine (i1 _).mono ?_); rintro e w' ⟨rfl, hw⟩; obtain rfl := hw.symm))
    go_ret2
    exact ⟨_, rfl, own_empty w 3 1, below_one _ _⟩

end Go.Proofs.Ytbcjbighipeafaa
