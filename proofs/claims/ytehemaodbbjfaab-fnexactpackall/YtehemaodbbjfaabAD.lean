/- PackAll: what is refused. -/
import Derived.Test.YtehemaodbbjfaabAA
namespace Go.Proofs.Ytehemaodbbjfaab
open Go.RowKit

set_option maxHeartbeats 2000000 in
theorem iAll_bad {w : World} {v : Value} {n : Nat} {xs : Nat → Int} (hv : Il w v n xs) (hn : n ≤ 1048576) {sz : Int} (h : ¬ (Sig n xs ∧ 1 ≤ sz ∧ sz ≤ 128)) (ys : Nat → Int) :
    Calls Try.prog 6 #[v, .int .i64 sz] w fun e w' => Psb w w' e 0 ys false := by
  have i1 := iSig_any hv hn
  have i2 := size_any sz
  obtain ⟨ao, cap, rfl, hcap, hc⟩ := hv
  clear hc
  by_cases c1 : Sig n xs
  · rw [decide_eq_true c1] at i1
    rw [decide_eq_false (fun c2 => h ⟨c1, c2⟩)] at i2
    clear h c1
    go_enter Try.func6, Try.ntmps6
    go_wp2_with (first | (go_at_call 16; (with_reducible refine (i1).mono ?_); rintro e w' ⟨rfl, hw⟩; obtain rfl := hw.symm) | (go_at_call 17; (with_reducible refine (i2 _).mono ?_); rintro e w' ⟨rfl, hw⟩; obtain rfl := hw.symm))
    go_ret2
    exact ⟨_, rfl, own_empty w 5 1, below_one _ _⟩
  · rw [decide_eq_false c1] at i1
    clear h c1
    clear i2
    go_enter Try.func6, Try.ntmps6
    go_wp2_with (first | (go_at_call 16; (with_reducible refine (i1).mono ?_); rintro e w' ⟨rfl, hw⟩; obtain rfl := hw.symm))
    go_ret2
    exact ⟨_, rfl, own_empty w 5 1, below_one _ _⟩
set_option maxHeartbeats 2000000 in
theorem sAll_bad {w : World} {v : Value} {n : Nat} {xs : Nat → Int} (hv : Il w v n xs) (hn : n ≤ 1048576) {sz : Int} (h : ¬ (Sig n xs ∧ 1 ≤ sz ∧ sz ≤ 128)) (ys : Nat → Int) :
    Calls Try.prog 4 #[v, .int .i64 sz] w fun e w' => Psb w w' e 0 ys false := by
  have i1 := sSig_any (hv.below (below_one w (.cells #[] 5))) hn
  have i2 := in_any sz 1 128
  obtain ⟨ao, cap, rfl, hcap, hc⟩ := hv
  clear hc
  by_cases c1 : Sig n xs
  · rw [decide_eq_true c1] at i1
    rw [decide_eq_false (fun c2 => h ⟨c1, c2⟩)] at i2
    clear h c1
    go_enter Try.func4, Try.ntmps4
    go_wp2_with (first | (go_at_call 12; (with_reducible refine (i1).mono ?_); rintro e w' ⟨rfl, hw⟩; obtain rfl := hw.symm) | (go_at_call 13; (with_reducible refine (i2 _).mono ?_); rintro e w' ⟨rfl, hw⟩; obtain rfl := hw.symm))
    go_ret2
    exact ⟨_, rfl, own_empty w 5 1, below_one _ _⟩
  · rw [decide_eq_false c1] at i1
    clear h c1
    clear i2
    go_enter Try.func4, Try.ntmps4
    go_wp2_with (first | (go_at_call 12; (with_reducible refine (i1).mono ?_); rintro e w' ⟨rfl, hw⟩; obtain rfl := hw.symm))
    go_ret2
    exact ⟨_, rfl, own_empty w 5 1, below_one _ _⟩
end Go.Proofs.Ytehemaodbbjfaab
