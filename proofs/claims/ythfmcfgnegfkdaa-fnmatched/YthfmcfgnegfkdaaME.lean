/- Best: what is refused. -/
import Derived.Test.YthfmcfgnegfkdaaMD
namespace Go.Proofs.Ythfmcfgnegfkdaa
open Go.RowKit Go.Shelf
attribute [local go_sem] Oper.semAt_some

set_option maxRecDepth 100000 in
set_option maxHeartbeats 4000000 in
theorem iBest_bad {w : World} {v u : Value} {n m : Nat} {xs ps : Nat → Int} (hv : Il w v n xs) (hu : Il w u m ps) (hn : n ≤ 1048576) (hm : m ≤ 1048576) (h : ¬ GM n xs m ps) :
    Calls Try.prog 8 #[v, u] w fun e w' => e = .returned (.tuple #[.int .i64 (-1), .int .i64 0]) ∧ Below w.heap.size w w' := by
  have i1 := places_any hv hu hn hm
  rw [decide_eq_false h] at i1
  obtain ⟨ao, cap, rfl, hcap, hc⟩ := hv
  obtain ⟨bo, cap2, rfl, hcap2, hc2⟩ := hu
  clear hc hc2 h
  refine (callsIn_wide (n := 3)).1 ?_
  refine callsIn_of_wp_marks Try.func8 rfl trivial ?_ rfl
  simp only [Try.ntmps8, List.size_toArray, List.length_cons, List.length_nil, Nat.reduceAdd, Nat.reduceSub, Array.replicate_succ, Array.replicate_zero, List.push_toArray, List.append_toArray, List.nil_append, List.cons_append]
  gi_wp2_with (first
    | (refine ⟨trivial, ?_⟩; gi_at_call 16; refine (callsIn_wide.2 i1).mono ?_; rintro e w' ⟨rfl, hw⟩; obtain rfl := hw.symm)
    | (refine ⟨trivial, ?_⟩))
  exact ⟨_, results_tmp2 rfl _ _ _, rfl, Below.refl _ _⟩

end Go.Proofs.Ythfmcfgnegfkdaa
