/- PackFrame: what the program refuses. -/
import Derived.Test.YtndagpompioooaaDoorPI
namespace Go.Proofs.YtndagpompioooaaDoor
open Go.RowKit

set_option maxRecDepth 20000 in
set_option maxHeartbeats 4000000 in
theorem iFrame_none {w : World} {v : Value} {n : Nat} {xs : Nat → Int} (hv : Il w v n xs) (hn : 1 ≤ n ∧ n ≤ 128) (h : Calls Tryd.prog 61 #[v] w fun e w' => e = .returned (.tuple #[.agg #[.int .i64 0, .int .i64 0, .slice none 0 0], .bool false]) ∧ Below w.heap.size w w') (ys : Nat → Int) :
    Calls Tryd.prog 20 #[v] w fun e w' => Psb w w' e 0 ys false := by
  have i1 := size_any (n : Int) w
  rw [decide_eq_true (by omega)] at i1
  have HSH : Hid (Calls Tryd.prog 61 #[v] w fun e w' => e = .returned (.tuple #[.agg #[.int .i64 0, .int .i64 0, .slice none 0 0], .bool false]) ∧ Below w.heap.size w w') := h
  have HRI : Hid (∀ W, Calls Tryd.prog 13 #[.int .i64 0, .slice none 0 0] W fun e w' => Pst W w' e 0 (lf (ric 0 (fun _ => 0) 0)) true) := fun W => iRice_good (k := 0) (N := 0) (nil_il W (fun _ => 0)) ⟨by omega, fun k hk => absurd hk (Nat.not_lt_zero _)⟩ (by omega) (Nat.zero_le _) rfl
  obtain ⟨ao, cap, rfl, hcap, hc⟩ := hv
  clear hc h
  generalize lf (ric 0 (fun _ => 0) 0) = L at HRI
  go_enter Tryd.func20, Tryd.ntmps20
  go_upto_region 3 with (first | (go_at_call 56; (with_reducible refine (i1).mono ?_); rintro e w' ⟨rfl, hw⟩; obtain rfl := hw.symm))
  clear i1
  go_upto_region 4 with (first
    | (go_at_call 61; refine HSH.out.mono ?_; rintro e w1 ⟨rfl, hb⟩; have B1 : Hid (Below w.heap.size w w1) := hb; clear hb))
  have HSB : Hid (Sh (w1.alloc (.cells #[.int .i64 0, .int .i64 0, .slice none 0 0] 74)) w1.heap.size 0 0 (.slice none 0 0)) := Sh.new _ _ _ _ _
  have B2 : Hid (Below w.heap.size w (w1.alloc (.cells #[.int .i64 0, .int .i64 0, .slice none 0 0] 74))) := bstep B1.out (below_one _ _)
  generalize w1.alloc (.cells #[.int .i64 0, .int .i64 0, .slice none 0 0] 74) = W2 at *
  obtain ⟨c0, c1, c2, _, _, _⟩ := HSB.out
  go_wp2_with (first
    | (go_at_call 13; refine (HRI.out _).mono ?_; rintro e w3 ⟨x3, rfl, hq, hb⟩; have B3 : Hid (Below w.heap.size w w3) := bstep B2.out hb; clear hq hb))
  go_ret2
  exact ⟨_, rfl, own_base (own_empty w3 5 1) B3.out.size, bstep B3.out (below_one _ _)⟩

theorem iFrame_size {w : World} {v : Value} {n : Nat} {xs : Nat → Int} (hv : Il w v n xs) (hn : ¬ (1 ≤ n ∧ n ≤ 128)) (ys : Nat → Int) :
    Calls Tryd.prog 20 #[v] w fun e w' => Psb w w' e 0 ys false := by
  have i1 := size_any (n : Int) w
  rw [decide_eq_false (by omega)] at i1
  obtain ⟨ao, cap, rfl, hcap, hc⟩ := hv
  clear hc hn
  go_enter Tryd.func20, Tryd.ntmps20
  go_wp2_with (first | (go_at_call 56; (with_reducible refine (i1).mono ?_); rintro e w' ⟨rfl, hw⟩; obtain rfl := hw.symm))
  go_ret2
  exact ⟨_, rfl, own_empty w 5 1, below_one _ _⟩
end Go.Proofs.YtndagpompioooaaDoor
