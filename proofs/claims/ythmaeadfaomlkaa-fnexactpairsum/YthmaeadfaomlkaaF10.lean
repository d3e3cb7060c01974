/- PairSum on both sides: by halves. -/
import Derived.Test.YthmaeadfaomlkaaF7
namespace Go.Proofs.Ythmaeadfaomlkaa
open Go.RowKit

/-- The sum by halves of the first n numbers, in at most f steps down. -/
def cpair : Nat → (Nat → Nat) → Nat → Option Nat
  | 0, _, _ => some 0
  | f + 1, xs, n => if n = 0 then some 0 else if n = 1 then cn (xs 0) else cop .add (cpair f xs (n / 2)) (cpair f (fun i => xs (n / 2 + i)) (n - n / 2))

/-- The beginning of a list. -/
theorem fl_low {w : World} {b off n cap h : Nat} {xs : Nat → Nat} (hv : Fl w (.slice (some ⟨b, off, none⟩) n cap) n xs) (hh : h ≤ n) : Fl w (.slice (some ⟨b, off, none⟩) h cap) h xs := by
  obtain ⟨ao, cap', e, hcap, hc⟩ := hv
  cases e
  refine ⟨_, _, rfl, by omega, fun h0 => ?_⟩
  obtain ⟨b', off', e, hlt, hcell⟩ := hc (by omega)
  cases e
  exact ⟨b, off, rfl, hlt, fun k hk => hcell k (by omega)⟩

/-- The rest of a list. -/
theorem fl_high {w : World} {b off n cap h : Nat} {xs : Nat → Nat} (hv : Fl w (.slice (some ⟨b, off, none⟩) n cap) n xs) (hh : h < n) : Fl w (.slice (some ⟨b, off + h, none⟩) (n - h) (cap - h)) (n - h) (fun i => xs (h + i)) := by
  obtain ⟨ao, cap', e, hcap, hc⟩ := hv
  cases e
  refine ⟨_, _, rfl, by omega, fun h0 => ?_⟩
  obtain ⟨b', off', e, hlt, hcell⟩ := hc (by omega)
  cases e
  exact ⟨b, off + h, rfl, hlt, fun k hk => by rw [Nat.add_assoc]; exact hcell (h + k) (by omega)⟩

set_option maxHeartbeats 2000000 in
theorem pair_spec : ∀ (f : Nat) {w : World} {v : Value} {n : Nat} {xs : Nat → Nat}, n ≤ f → n ≤ 200 → Fl w v n xs →
    Calls Try.prog 14 #[v] w fun e w' => ∃ S, e = .returned (.float .f64 S) ∧ cn S = cpair f xs n ∧ Below w.heap.size w w' := by
  intro f
  induction f with
  | zero =>
    intro w v n xs hf h2 hv
    obtain rfl : n = 0 := by omega
    have hl := list_spec hv (by omega)
    obtain ⟨ao, cap, rfl, hcap, hc⟩ := hv
    clear hc
    go_enter Try.func14, Try.ntmps14
    go_wp2_with (go_at_call 24; refine hl.mono ?_; rintro e w' ⟨rfl, hw⟩; obtain rfl := hw.symm)
    go_ret
    exact ⟨_, rfl, cn_zero, Below.refl _ _⟩
  | succ f ih =>
    intro w v n xs hf h2 hv
    have hl := list_spec hv (by omega)
    rw [decide_eq_true h2] at hl
    have FV : Hid (Fl w v n xs) := hv
    obtain ⟨ao, cap, rfl, hcap, hc⟩ := hv
    simp only [cpair]
    by_cases h0 : n = 0
    · subst h0
      clear hc
      go_enter Try.func14, Try.ntmps14
      go_wp2_with (go_at_call 24; refine hl.mono ?_; rintro e w' ⟨rfl, hw⟩; obtain rfl := hw.symm)
      go_ret
      exact ⟨_, rfl, cn_zero, Below.refl _ _⟩
    · rw [if_neg h0]
      obtain ⟨b, off, rfl, hlt, hcell⟩ := hc (by omega)
      by_cases h1 : n = 1
      · subst h1
        rw [if_pos rfl]
        have c : w.cell? ⟨b, off, none⟩ = some (.float .f64 (xs 0)) := hcell 0 (by omega)
        clear hcell hc
        go_enter Try.func14, Try.ntmps14
        go_wp2_with (go_at_call 24; refine hl.mono ?_; rintro e w' ⟨rfl, hw⟩; obtain rfl := hw.symm)
        go_ret
        exact ⟨_, rfl, rfl, Below.refl _ _⟩
      · rw [if_neg h1]
        clear hcell hc
        have hA := rAdd
        have a1 := ih (w := w) (n := n / 2) (by omega) (by omega) (fl_low FV.out (by omega))
        have a2 := fun W (hb : Below w.heap.size w W) => ih (w := W) (n := n - n / 2) (by omega) (by omega) ((fl_high FV.out (by omega)).below hb)
        have z0 : ((n : Int) == 0) = false := by simp; omega
        have z1 : ((n : Int) == 1) = false := by simp; omega
        have z2 : cap ≠ n / 2 := by omega
        clear h0 h1
        go_enter Try.func14, Try.ntmps14
        go_wp2_with (first
          | (go_at_call 24; refine hl.mono ?_; rintro e w' ⟨rfl, hw⟩; obtain rfl := hw.symm)
          | (go_at_call 14; (with_reducible refine a1.mono ?_); rintro e w1 ⟨S1, rfl, hS1, hb1⟩; have HS1 : Hid _ := hS1; clear hS1)
          | (go_at_call 14; (with_reducible refine (a2 _ hb1).mono ?_); rintro e w2 ⟨S2, rfl, hS2, hb2⟩; have HS2 : Hid _ := hS2; clear hS2))
        go_ret
        exact ⟨_, rfl, by rw [cn_fres, HS1.out, HS2.out], below_fwor (bstep hb1 hb2) _ _ _⟩

set_option maxHeartbeats 2000000 in
theorem pair_impl : ∀ (f : Nat) {w : World} {v : Value} {n : Nat} {xs : Nat → Nat}, n ≤ f → n ≤ 200 → Fl w v n xs →
    Calls Try.prog 15 #[v] w fun e w' => ∃ S, e = .returned (.float .f64 S) ∧ cn S = cpair f xs n ∧ Below w.heap.size w w' := by
  intro f
  induction f with
  | zero =>
    intro w v n xs hf h2 hv
    obtain rfl : n = 0 := by omega
    obtain ⟨ao, cap, rfl, hcap, hc⟩ := hv
    clear hc
    go_enter Try.func15, Try.ntmps15
    go_wp2
    go_ret
    exact ⟨_, rfl, cn_zero, Below.refl _ _⟩
  | succ f ih =>
    intro w v n xs hf h2 hv
    have hl := list_impl hv (by omega)
    rw [decide_eq_true h2] at hl
    have FV : Hid (Fl w v n xs) := hv
    obtain ⟨ao, cap, rfl, hcap, hc⟩ := hv
    simp only [cpair]
    by_cases h0 : n = 0
    · subst h0
      clear hc
      go_enter Try.func15, Try.ntmps15
      go_wp2
      go_ret
      exact ⟨_, rfl, cn_zero, Below.refl _ _⟩
    · rw [if_neg h0]
      obtain ⟨b, off, rfl, hlt, hcell⟩ := hc (by omega)
      by_cases h1 : n = 1
      · subst h1
        rw [if_pos rfl]
        have c : w.cell? ⟨b, off, none⟩ = some (.float .f64 (xs 0)) := hcell 0 (by omega)
        clear hcell hc
        go_enter Try.func15, Try.ntmps15
        go_wp2_with (go_at_call 25; refine hl.mono ?_; rintro e w' ⟨rfl, hw⟩; obtain rfl := hw.symm)
        go_ret
        exact ⟨_, rfl, rfl, Below.refl _ _⟩
      · rw [if_neg h1]
        clear hcell hc
        have hA := rAdd
        have a1 := fun W (hb : Below w.heap.size w W) => ih (w := W) (n := n / 2) (by omega) (by omega) ((fl_low FV.out (by omega)).below hb)
        have a2 := fun W (hb : Below w.heap.size w W) => ih (w := W) (n := n - n / 2) (by omega) (by omega) ((fl_high FV.out (by omega)).below hb)
        have z0 : ((n : Int) == 0) = false := by simp; omega
        have z1 : ((n : Int) == 1) = false := by simp; omega
        have z2 : cap ≠ n / 2 := by omega
        have z3 : (0 : Int) ≤ (n : Int) / 2 := by omega
        have z4 : (n : Int) / 2 ≤ (n : Int) := by omega
        have z6 : ((n : Int) / 2).toNat = n / 2 := by omega
        have z5 : (n : Int) / 2 ≤ (cap : Int) := by omega
        have a1' := a1 w.drew (Below.refl _ w).drew
        have a2' : ∀ W, Below w.drew.heap.size w.drew W → _ := fun W hb => a2 W (bstep (Below.refl _ w).drew hb)
        clear h0 h1 a1 a2
        go_enter Try.func15, Try.ntmps15
        go_wp2_with (first
          | (go_at_call 25; refine hl.mono ?_; rintro e w' ⟨rfl, hw⟩; obtain rfl := hw.symm))
        go_region_with (first
          | (go_at_call 15; (with_reducible refine a1'.mono ?_); rintro e w1 ⟨S1, rfl, hS1, hb1⟩; have HS1 : Hid _ := hS1; clear hS1)
          | (go_at_call 15; (with_reducible refine (a2' _ hb1).mono ?_); rintro e w2 ⟨S2, rfl, hS2, hb2⟩; have HS2 : Hid _ := hS2; clear hS2))
        go_wp2
        go_ret
        exact ⟨_, rfl, by rw [cn_fres, HS1.out, HS2.out], below_fwor (bstep (bstep (Below.refl _ w).drew hb1) hb2) _ _ _⟩

set_option maxHeartbeats 1000000 in
theorem pair_specA {w : World} {v : Value} {n : Nat} {xs : Nat → Nat} (hv : Fl w v n xs) (hn : n ≤ 1048576) :
    Calls Try.prog 14 #[v] w fun e w' => ∃ S, e = .returned (.float .f64 S) ∧ cn S = (if n ≤ 200 then cpair n xs n else some 0) ∧ Below w.heap.size w w' := by
  by_cases h2 : n ≤ 200
  · rw [if_pos h2]
    exact pair_spec n (Nat.le_refl _) h2 hv
  · rw [if_neg h2]
    have hl := list_spec hv hn
    rw [decide_eq_false h2] at hl
    obtain ⟨ao, cap, rfl, hcap, hc⟩ := hv
    clear hc
    go_enter Try.func14, Try.ntmps14
    go_wp2_with (go_at_call 24; refine hl.mono ?_; rintro e w' ⟨rfl, hw⟩; obtain rfl := hw.symm)
    go_ret
    exact ⟨_, rfl, cn_zero, Below.refl _ _⟩

set_option maxHeartbeats 1000000 in
theorem pair_implA {w : World} {v : Value} {n : Nat} {xs : Nat → Nat} (hv : Fl w v n xs) (hn : n ≤ 1048576) :
    Calls Try.prog 15 #[v] w fun e w' => ∃ S, e = .returned (.float .f64 S) ∧ cn S = (if n ≤ 200 then cpair n xs n else some 0) ∧ Below w.heap.size w w' := by
  by_cases h2 : n ≤ 200
  · rw [if_pos h2]
    exact pair_impl n (Nat.le_refl _) h2 hv
  · rw [if_neg h2]
    have hl := list_impl hv hn
    rw [decide_eq_false h2] at hl
    obtain ⟨ao, cap, rfl, hcap, hc⟩ := hv
    clear hc
    have z0 : ((n : Int) == 0) = false := by simp; omega
    go_enter Try.func15, Try.ntmps15
    go_wp2_with (go_at_call 25; refine hl.mono ?_; rintro e w' ⟨rfl, hw⟩; obtain rfl := hw.symm)
    go_ret
    exact ⟨_, rfl, cn_zero, Below.refl _ _⟩

set_option maxHeartbeats 1000000 in
theorem walk_pair {w : World} {v : Value} {n : Nat} {xs : Nat → Nat} (hv : Fl w v n xs) (hn : n ≤ 9223372036854775807) :
    Calls Try.prog 4 #[v] w fun e w' => e = .returned (.bool true) ∧ Below w.heap.size w w' := by
  by_cases h : n ≤ 1048576
  · have FV : Hid (Fl w v n xs) := hv
    obtain ⟨ao, cap, rfl, hcap, hc⟩ := hv
    clear hc
    have HB : Hid (Below w.heap.size w w) := Below.refl _ _
    go_enter Try.func4, Try.ntmps4
    go_wp2_with (first
      | (go_at_call 13; refine (eq_yes FX.out FZ.out h).mono ?_; rintro e w7 ⟨rfl, hb⟩; have HB : Hid _ := bstep HB.out hb; clear hb)
      | (go_at_call 10; have MK := MARK; refine (copy_any FV.out h).mono ?_; rintro e w5 ⟨hb, v5, rfl, hv5⟩; have FX : Hid (Fl _ _ n xs) := FX.out.below hb; have FZ : Hid (Fl _ _ n xs) := hv5; have HB : Hid _ := bstep HB.out hb; clear hb hv5)
      | (go_at_call 10; refine (copy_any FV.out h).mono ?_; rintro e w1 ⟨hb, v1, rfl, hv1⟩; have FV : Hid (Fl _ _ n xs) := FV.out.below hb; have FX : Hid (Fl _ _ n xs) := hv1; have HB : Hid _ := bstep HB.out hb; clear hb hv1)
      | (go_at_call 14; refine (pair_specA FX.out h).mono ?_; rintro e w2 ⟨S1, rfl, hS, hb⟩; have HS1 : Hid _ := hS; have FV : Hid (Fl _ _ n xs) := FV.out.below hb; have HB : Hid _ := bstep HB.out hb; clear hb hS)
      | (go_at_call 15; refine (pair_implA FX.out h).mono ?_; rintro e w4 ⟨S2, rfl, hS, hb⟩; have HS2 : Hid _ := hS; have FV : Hid (Fl _ _ n xs) := FV.out.below hb; have FX : Hid (Fl _ _ n xs) := FX.out.below hb; have HB : Hid _ := bstep HB.out hb; clear hb hS)
      | (go_at_call 12; refine (same_yes _ _ _ (HS2.out.trans HS1.out.symm)).mono ?_; rintro e w6 ⟨rfl, hw⟩; obtain rfl := hw.symm; have MARK : Hid True := trivial))
    go_ret
    exact ⟨rfl, HB.out⟩
  · obtain ⟨ao, cap, rfl, hcap, hc⟩ := hv
    clear hc
    go_enter Try.func4, Try.ntmps4
    go_wp2
    go_ret
    exact ⟨rfl, Below.refl _ _⟩
end Go.Proofs.Ythmaeadfaomlkaa
