/- RootsTo: the law. -/
import Derived.Test.YtainkpnkekombaaT5
namespace Go.Proofs.Ytainkpnkekombaa
open Go.RowKit

set_option maxHeartbeats 1000000 in
theorem sRoots_no {w : World} {v : Value} {n : Nat} {xs ys : Nat → Nat} (hv : Fp w v n xs ys) (hn : ¬ n ≤ 127) (hm : n ≤ 9223372036854775807) :
    Calls Try.prog 12 #[v] w fun e w' => ∃ u, e = .returned u ∧ w'.ownsRow w.heap.size 27 2 u 0 [] ∧ Below w.heap.size w w' := by
  obtain ⟨ao, cap, rfl, hcap, hc⟩ := hv
  clear hc
  go_enter Try.func12, Try.ntmps12
  go_wp2
  go_ret
  exact ⟨_, rfl, own_empty w 27 2, below_one _ _⟩

set_option maxHeartbeats 1000000 in
theorem iRoots_no {w : World} {v : Value} {n : Nat} {xs ys : Nat → Nat} (hv : Fp w v n xs ys) (hn : ¬ n ≤ 127) (hm : n ≤ 9223372036854775807) :
    Calls Try.prog 13 #[v] w fun e w' => ∃ u, e = .returned u ∧ w'.ownsRow w.heap.size 27 2 u 0 [] ∧ Below w.heap.size w w' := by
  obtain ⟨ao, cap, rfl, hcap, hc⟩ := hv
  clear hc
  have ho := own_base (own_empty (w.alloc (.cells #[.slice ao n cap] 29)) 27 2) (below_one w (.cells #[.slice ao n cap] 29)).size
  have hb := bstep (below_one w (.cells #[.slice ao n cap] 29)) (below_one _ (.cells #[] 27))
  have hz : (w.alloc (.cells #[.slice ao n cap] 29)).heap.size = w.heap.size + 1 := by simp
  rw [hz] at ho
  clear hz
  go_enter Try.func13, Try.ntmps13
  go_wp2
  go_ret
  exact ⟨_, rfl, ho, hb⟩

theorem walk_roots {w : World} {v : Value} {n : Nat} {xs ys : Nat → Nat} (hv : Fp w v n xs ys) (hn : n ≤ 9223372036854775807) : Calls Try.prog 4 #[v] w fun e w' => e = .returned (.bool true) ∧ Below w.heap.size w w' := by
  by_cases h : n ≤ 127
  · exact walk_roots_of hv hn (n + 1) (by omega) (croot xs ys n) (fun W u hu => sRoots_any hu h) (fun W u hu => iRoots_any hu h)
  · refine walk_roots_of hv hn 0 (by omega) (fun _ => (none, none)) (fun W u hu => ?_) (fun W u hu => ?_)
    · refine (sRoots_no hu h hn).mono ?_
      rintro e w' ⟨u', rfl, ho, hb⟩
      exact ⟨u', fun _ => 0, fun _ => 0, rfl, fp_of_own ho, fun j hj => by omega, hb⟩
    · refine (iRoots_no hu h hn).mono ?_
      rintro e w' ⟨u', rfl, ho, hb⟩
      exact ⟨u', fun _ => 0, fun _ => 0, rfl, ho, fun j hj => by omega, hb⟩
end Go.Proofs.Ytainkpnkekombaa
