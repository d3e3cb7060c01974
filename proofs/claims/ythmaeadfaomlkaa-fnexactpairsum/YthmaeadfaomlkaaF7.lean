/- Dot on both sides. -/
import Derived.Test.YthmaeadfaomlkaaF5
import Derived.RegionTactic
import Derived.Deep.RegionWith
import Derived.Deep.RegionHeld3
namespace Go.Proofs.Ythmaeadfaomlkaa
open Go.RowKit

set_option maxHeartbeats 400000 in
theorem times_plus (a b c : Nat) (w : World) : Calls Try.prog 32 #[.float .f64 a, .float .f64 b, .float .f64 c] w fun e w' => ∃ S, e = .returned (.float .f64 S) ∧ cn S = cop .add (cop .mul (cn a) (cn b)) (cn c) ∧ Below w.heap.size w w' := by
  have hA := rAdd
  have hM := rMul
  go_enter Try.func32, Try.ntmps32
  go_wp2
  go_ret
  refine ⟨_, rfl, ?_, ?_⟩
  · simp only [cn_fres]
  · repeat apply below_fwor
    exact Below.refl _ _

theorem keepc {W w1 : World} (hb : Below W.heap.size W w1) {a : Addr} {v : Value} (h : W.cell? a = some v) : w1.cell? a = some v := (hb.cell (World.block_lt_of_cell? W _ h)).trans h

set_option maxHeartbeats 1000000 in
theorem step31 {w : World} {g h n cap cap2 k S : Nat} {ao bo : Option Addr} {b off b2 off2 : Nat} {x y : Nat} (hk : k < n) (hg : w.cell? ⟨g, 0, none⟩ = some (.slice ao n cap)) (hh : w.cell? ⟨h, 0, none⟩ = some (.slice bo n cap2)) (hao : ao = some ⟨b, off, none⟩) (hbo : bo = some ⟨b2, off2, none⟩) (hc : w.cell? ⟨b, off + k, none⟩ = some (.float .f64 x)) (hc2 : w.cell? ⟨b2, off2 + k, none⟩ = some (.float .f64 y)) :
    Calls Try.prog 31 #[.float .f64 S, .int .i64 k, .pointer (some ⟨g, 0, none⟩), .pointer (some ⟨h, 0, none⟩)] w fun e w' => ∃ S', e = .returned (.float .f64 S') ∧ cn S' = cop .add (cop .mul (cn x) (cn y)) (cn S) ∧ Below w.heap.size w w' := by
  subst hao hbo
  have ht := fun W => times_plus x y S W
  go_enter Try.func31, Try.ntmps31
  go_wp2
  go_region_held3 (fun W => W.cell? ⟨g, 0, none⟩ = some (.slice (some ⟨b, off, none⟩) n cap) ∧ W.cell? ⟨h, 0, none⟩ = some (.slice (some ⟨b2, off2, none⟩) n cap2) ∧ W.cell? ⟨b, off + k, none⟩ = some (.float .f64 x) ∧ W.cell? ⟨b2, off2 + k, none⟩ = some (.float .f64 y)) (go_keep) (first | (go_at_call 32; refine (ht _).mono ?_; rintro e w1 ⟨S1, rfl, hS1, hb1⟩; have HS1 : Hid _ := hS1; clear hS1; have q1 := keepc hb1 hg; have q2 := keepc hb1 hh; have q3 := keepc hb1 hc; have q4 := keepc hb1 hc2))
  go_wp2
  go_ret
  exact ⟨_, rfl, HS1.out, bstep ((Below.refl _ _).drew) hb1⟩

theorem sum_comm (a b : Ieee.Datum) : a.sum b = b.sum a := by
  cases a with
  | nan s f => cases b <;> rfl
  | infinity s =>
    cases b with
    | nan t f => rfl
    | infinity t =>
      simp only [Ieee.Datum.sum]
      by_cases h : s = t
      · subst h; rfl
      · rw [if_neg h, if_neg (fun e => h e.symm)]
    | number t m e => rfl
  | number s m i =>
    cases b with
    | nan t f => rfl
    | infinity t => rfl
    | number t n j =>
      simp only [Ieee.Datum.sum]
      rw [Int.min_comm i j, Int.add_comm (Ieee.signed s m _), Bool.and_comm s t]

theorem cop_comm (x y : Option Nat) : cop .add x y = cop .add y x := by
  cases x <;> cases y <;> simp [cop, floatBits, Ieee.Format.add, sum_comm]

set_option maxHeartbeats 2000000 in
theorem dot_spec {w : World} {v u : Value} {n m : Nat} {xs ys : Nat → Nat} (hv : Fl w v n xs) (hu : Fl w u m ys) (hn : n ≤ 1048576) (hm : m ≤ 1048576) :
    Calls Try.prog 20 #[v, u] w fun e w' => ∃ S, e = .returned (.float .f64 S) ∧ cn S = (if n ≤ 200 ∧ m = n then cdot xs ys n else some 0) ∧ Below w.heap.size w w' := by
  have hl := list_spec hv hn
  have hl2 := list_spec hu hm
  obtain ⟨ao, cap, rfl, hcap, hc⟩ := hv
  obtain ⟨bo, cap2, rfl, hcap2, hc2⟩ := hu
  have HC : Hid _ := hc
  have HC2 : Hid _ := hc2
  clear hc hc2
  have hA := rAdd
  have hM := rMul
  by_cases h2 : n ≤ 200
  · rw [decide_eq_true h2] at hl
    by_cases h3 : m = n
    · subst h3
      rw [if_pos ⟨h2, rfl⟩]
      rw [decide_eq_true h2] at hl2
      go_enter Try.func20, Try.ntmps20
      go_wp2_with (go_at_call 24; (first | (with_reducible refine hl.mono ?_) | (with_reducible refine hl2.mono ?_)); rintro e w' ⟨rfl, hw⟩; obtain rfl := hw.symm)
      go_loopw [5, 6] (fun s i wr => ∃ k S : Nat, i = .int .i64 k ∧ s = .float .f64 S ∧ k ≤ m ∧ Hid (cn S = cdot xs ys k ∧ Below w.heap.size w wr)) (fun _ i _ => m - (intOf i).toNat)
      case atStart => exact ⟨0, 0, rfl, rfl, by omega, cn_zero, Below.refl _ _⟩
      case round =>
        obtain ⟨k, S, rfl, rfl, hk, hrel⟩ := hrel
        by_cases h1 : k < m
        · obtain ⟨b, off, rfl, hlt, c⟩ := at_later HC.out hrel.out.2 (Nat.le_refl _) h1
          obtain ⟨b2, off2, rfl, hlt2, c2⟩ := at_later HC2.out hrel.out.2 (Nat.le_refl _) h1
          have hfc := fwor_cell
          go_wp2
          go_region
          go_wp2
          go_roundw
          case rel => exact ⟨k + 1, _, by go_num, rfl, by omega, by rw [cn_fres, cn_fres, hrel.out.1]; rfl, below_fwor (below_fwor hrel.out.2.drew _ _ _) _ _ _⟩
          case measure => simp [intOf]; omega
        · obtain rfl : k = m := by omega
          go_wp2
          go_ret
          exact ⟨_, rfl, hrel.out.1, hrel.out.2⟩
    · rw [if_neg (fun h => h3 h.2)]
      cases h4 : decide (m ≤ 200)
      all_goals
        rw [h4] at hl2
        clear h4
        go_enter Try.func20, Try.ntmps20
        go_wp2_with (go_at_call 24; (first | (with_reducible refine hl.mono ?_) | (with_reducible refine hl2.mono ?_)); rintro e w' ⟨rfl, hw⟩; obtain rfl := hw.symm)
        go_ret
        exact ⟨_, rfl, cn_zero, Below.refl _ _⟩
  · rw [if_neg (fun h => h2 h.1)]
    rw [decide_eq_false h2] at hl
    go_enter Try.func20, Try.ntmps20
    go_wp2_with (go_at_call 24; refine hl.mono ?_; rintro e w' ⟨rfl, hw⟩; obtain rfl := hw.symm)
    go_ret
    exact ⟨_, rfl, cn_zero, Below.refl _ _⟩

set_option maxHeartbeats 2000000 in
theorem dot_impl {w : World} {v u : Value} {n m : Nat} {xs ys : Nat → Nat} (hv : Fl w v n xs) (hu : Fl w u m ys) (hn : n ≤ 1048576) (_ : m ≤ 1048576) :
    Calls Try.prog 21 #[v, u] w fun e w' => ∃ S, e = .returned (.float .f64 S) ∧ cn S = (if n ≤ 200 ∧ m = n then cdot xs ys n else some 0) ∧ Below w.heap.size w w' := by
  have hl := fun W (hb : Below w.heap.size w W) => list_impl (hv.below hb) hn
  obtain ⟨ao, cap, rfl, hcap, hc⟩ := hv
  obtain ⟨bo, cap2, rfl, hcap2, hc2⟩ := hu
  have HC : Hid _ := hc
  have HC2 : Hid _ := hc2
  clear hc hc2
  have hmf : ∀ (fn : Fn) (first cap : Array Value) (w : World), (Instr.makeFunc fn first cap).run Try.prog w = .ok (.func fn first cap) w := fun _ _ _ _ => rfl
  have hb0 : Below w.heap.size w ((w.alloc (.cells #[.slice ao n cap] 22)).alloc (.cells #[.slice bo m cap2] 22)) := (below_one _ _).alloc (by simp) _
  by_cases h2 : n ≤ 200
  · rw [decide_eq_true h2] at hl
    by_cases h3 : m = n
    · subst h3
      rw [if_pos ⟨h2, rfl⟩]
      have ho := over31 (w := (w.alloc (.cells #[.slice ao m cap] 22)).alloc (.cells #[.slice bo m cap2] 22)) h2 (.pointer (some ⟨w.heap.size, 0, none⟩)) (.pointer (some ⟨w.heap.size + 1, 0, none⟩)) 0 (cdot xs ys) cn_zero (fun k hk S W hb hS => by
        obtain ⟨b, off, e, _, c⟩ := at_later HC.out (hb0.trans (hb.mono hb0.size)) (Nat.le_refl _) hk
        obtain ⟨b2, off2, e2, _, c2⟩ := at_later HC2.out (hb0.trans (hb.mono hb0.size)) (Nat.le_refl _) hk
        have hg : W.cell? ⟨w.heap.size, 0, none⟩ = some (.slice ao m cap) := (hb.cell (p := ⟨w.heap.size, 0, none⟩) (by simp; omega)).trans (by simp)
        have hg2 : W.cell? ⟨w.heap.size + 1, 0, none⟩ = some (.slice bo m cap2) := (hb.cell (p := ⟨w.heap.size + 1, 0, none⟩) (by simp)).trans (by simp)
        refine (step31 hk hg hg2 e e2 c c2).mono ?_
        rintro e w' ⟨S', rfl, h, hbl⟩
        exact ⟨S', rfl, by rw [h, hS, cop_comm]; rfl, hbl⟩)
      go_enter Try.func21, Try.ntmps21
      go_wp2_with (first | (go_at_call 25; refine (hl _ hb0).mono ?_; rintro e w' ⟨rfl, hw⟩; obtain rfl := hw.symm) | (go_at_call 26; refine ho.mono ?_; rintro e w1 ⟨S, rfl, hS, hb1⟩; have HS : Hid _ := hS; clear hS))
      go_ret
      exact ⟨_, rfl, HS.out, bstep hb0 hb1⟩
    · rw [if_neg (fun h => h3 h.2)]
      go_enter Try.func21, Try.ntmps21
      go_wp2_with (go_at_call 25; refine (hl _ hb0).mono ?_; rintro e w' ⟨rfl, hw⟩; obtain rfl := hw.symm)
      go_ret
      exact ⟨_, rfl, cn_zero, hb0⟩
  · rw [if_neg (fun h => h2 h.1)]
    rw [decide_eq_false h2] at hl
    go_enter Try.func21, Try.ntmps21
    go_wp2_with (go_at_call 25; refine (hl _ hb0).mono ?_; rintro e w' ⟨rfl, hw⟩; obtain rfl := hw.symm)
    go_ret
    exact ⟨_, rfl, cn_zero, hb0⟩

set_option maxHeartbeats 2000000 in
theorem walk_dot {w : World} {v u : Value} {n m : Nat} {xs ys : Nat → Nat} (hv : Fl w v n xs) (hn : n ≤ 9223372036854775807) (hu : Fl w u m ys) (hm : m ≤ 9223372036854775807) :
    Calls Try.prog 7 #[v, u] w fun e w' => e = .returned (.bool true) ∧ Below w.heap.size w w' := by
  by_cases h : n ≤ 1048576
  · by_cases h' : m ≤ 1048576
    · have FV : Hid (Fl w v n xs) := hv
      have FU : Hid (Fl w u m ys) := hu
      obtain ⟨ao, cap, rfl, hcap, hc⟩ := hv
      obtain ⟨bo, cap2, rfl, hcap2, hc2⟩ := hu
      clear hc hc2
      have HB : Hid (Below w.heap.size w w) := Below.refl _ _
      go_enter Try.func7, Try.ntmps7
      go_wp2_with (first
        | (go_at_call 13; (first | (with_reducible refine (eq_yes FX.out FZ.out h).mono ?_) | (with_reducible refine (eq_yes FY.out FZ2.out h').mono ?_)); rintro e w7 ⟨rfl, hb⟩; have FV : Hid (Fl _ _ n xs) := FV.out.below hb; have FU : Hid (Fl _ _ m ys) := FU.out.below hb; have FX : Hid (Fl _ _ n xs) := FX.out.below hb; have FY : Hid (Fl _ _ m ys) := FY.out.below hb; have HB : Hid _ := bstep HB.out hb; clear hb)
        | (go_at_call 10; have MK := MARK; (with_reducible refine (copy_any FV.out h).mono ?_); rintro e w5 ⟨hb, v5, rfl, hv5⟩; have FV : Hid (Fl _ _ n xs) := FV.out.below hb; have FU : Hid (Fl _ _ m ys) := FU.out.below hb; have FX : Hid (Fl _ _ n xs) := FX.out.below hb; have FY : Hid (Fl _ _ m ys) := FY.out.below hb; have FZ : Hid (Fl _ _ n xs) := hv5; have HB : Hid _ := bstep HB.out hb; clear hb hv5)
        | (go_at_call 10; have MK := MARK; (with_reducible refine (copy_any FU.out h').mono ?_); rintro e w5 ⟨hb, v6, rfl, hv5⟩; have FV : Hid (Fl _ _ n xs) := FV.out.below hb; have FU : Hid (Fl _ _ m ys) := FU.out.below hb; have FX : Hid (Fl _ _ n xs) := FX.out.below hb; have FY : Hid (Fl _ _ m ys) := FY.out.below hb; have FZ2 : Hid (Fl _ _ m ys) := hv5; have HB : Hid _ := bstep HB.out hb; clear hb hv5)
        | (go_at_call 10; (with_reducible refine (copy_any FV.out h).mono ?_); rintro e w1 ⟨hb, v1, rfl, hv1⟩; have FV : Hid (Fl _ _ n xs) := FV.out.below hb; have FU : Hid (Fl _ _ m ys) := FU.out.below hb; have FX : Hid (Fl _ _ n xs) := hv1; have HB : Hid _ := bstep HB.out hb; clear hb hv1)
        | (go_at_call 10; (with_reducible refine (copy_any FU.out h').mono ?_); rintro e w1 ⟨hb, v2, rfl, hv1⟩; have FV : Hid (Fl _ _ n xs) := FV.out.below hb; have FU : Hid (Fl _ _ m ys) := FU.out.below hb; have FX : Hid (Fl _ _ n xs) := FX.out.below hb; have FY : Hid (Fl _ _ m ys) := hv1; have HB : Hid _ := bstep HB.out hb; clear hb hv1)
        | (go_at_call 20; refine (dot_spec FX.out FY.out h h').mono ?_; rintro e w2 ⟨S1, rfl, hS, hb⟩; have HS1 : Hid _ := hS; have FV : Hid (Fl _ _ n xs) := FV.out.below hb; have FU : Hid (Fl _ _ m ys) := FU.out.below hb; have HB : Hid _ := bstep HB.out hb; clear hb hS)
        | (go_at_call 21; refine (dot_impl FX.out FY.out h h').mono ?_; rintro e w4 ⟨S2, rfl, hS, hb⟩; have HS2 : Hid _ := hS; have FV : Hid (Fl _ _ n xs) := FV.out.below hb; have FU : Hid (Fl _ _ m ys) := FU.out.below hb; have FX : Hid (Fl _ _ n xs) := FX.out.below hb; have FY : Hid (Fl _ _ m ys) := FY.out.below hb; have HB : Hid _ := bstep HB.out hb; clear hb hS)
        | (go_at_call 12; refine (same_yes _ _ _ (HS2.out.trans HS1.out.symm)).mono ?_; rintro e w6 ⟨rfl, hw⟩; obtain rfl := hw.symm; have MARK : Hid True := trivial))
      go_ret
      exact ⟨rfl, HB.out⟩
    · obtain ⟨ao, cap, rfl, hcap, hc⟩ := hv
      obtain ⟨bo, cap2, rfl, hcap2, hc2⟩ := hu
      clear hc hc2
      go_enter Try.func7, Try.ntmps7
      go_wp2
      go_ret
      exact ⟨rfl, Below.refl _ _⟩
  · obtain ⟨ao, cap, rfl, hcap, hc⟩ := hv
    clear hc
    go_enter Try.func7, Try.ntmps7
    go_wp2
    go_ret
    exact ⟨rfl, Below.refl _ _⟩
end Go.Proofs.Ythmaeadfaomlkaa
