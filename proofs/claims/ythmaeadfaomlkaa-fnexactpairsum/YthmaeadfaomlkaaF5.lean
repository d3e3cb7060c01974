/- Sum, Dot and Horner on both sides. -/
import Derived.Test.YthmaeadfaomlkaaF4
namespace Go.Proofs.Ythmaeadfaomlkaa
open Go.RowKit

theorem cn_zero : cn 0 = some 0 := by decide +kernel

theorem below_one (w : World) (o : Obj) : Below w.heap.size w (w.alloc o) := (Below.refl _ _).alloc (Nat.le_refl _) _

/-- The sum of the first numbers, in order. -/
def csum (xs : Nat → Nat) : Nat → Option Nat
  | 0 => some 0
  | k + 1 => cop .add (csum xs k) (cn (xs k))

/-- The sum of the first products, in order. -/
def cdot (xs ys : Nat → Nat) : Nat → Option Nat
  | 0 => some 0
  | k + 1 => cop .add (cdot xs ys k) (cop .mul (cn (xs k)) (cn (ys k)))

/-- What a cell of a list is, later. -/
theorem at_later {w wr : World} {ao : Option Addr} {n B k : Nat} {xs : Nat → Nat} (h : 0 < n → ∃ b off, ao = some ⟨b, off, none⟩ ∧ b < w.heap.size ∧ ∀ k, k < n → w.cell? ⟨b, off + k, none⟩ = some (.float .f64 (xs k))) (hb : Below B w wr) (hB : w.heap.size ≤ B) (hk : k < n) :
    ∃ b off, ao = some ⟨b, off, none⟩ ∧ b < w.heap.size ∧ wr.cell? ⟨b, off + k, none⟩ = some (.float .f64 (xs k)) := by
  obtain ⟨b, off, e, hlt, hc⟩ := h (by omega)
  exact ⟨b, off, e, hlt, (hb.cell (p := ⟨b, off + k, none⟩) (show b < B by omega)).trans (hc k hk)⟩

set_option maxHeartbeats 1000000 in
theorem sum_spec {w : World} {v : Value} {n : Nat} {xs : Nat → Nat} (hv : Fl w v n xs) (hn : n ≤ 1048576) :
    Calls Try.prog 9 #[v] w fun e w' => ∃ S, e = .returned (.float .f64 S) ∧ cn S = (if n ≤ 200 then csum xs n else some 0) ∧ Below w.heap.size w w' := by
  have hl := list_spec hv hn
  obtain ⟨ao, cap, rfl, hcap, hc⟩ := hv
  have HC : Hid _ := hc
  clear hc
  have hA := rAdd
  by_cases h2 : n ≤ 200
  · rw [if_pos h2]
    rw [decide_eq_true h2] at hl
    go_enter Try.func9, Try.ntmps9
    go_wp2_with (go_at_call 24; refine hl.mono ?_; rintro e w' ⟨rfl, hw⟩; obtain rfl := hw.symm)
    go_loopw [3, 4] (fun s i wr => ∃ k S : Nat, i = .int .i64 k ∧ s = .float .f64 S ∧ k ≤ n ∧ Hid (cn S = csum xs k ∧ Below w.heap.size w wr)) (fun _ i _ => n - (intOf i).toNat)
    case atStart => exact ⟨0, 0, rfl, rfl, by omega, cn_zero, Below.refl _ _⟩
    case round =>
      obtain ⟨k, S, rfl, rfl, hk, hrel⟩ := hrel
      by_cases h1 : k < n
      · obtain ⟨b, off, rfl, hlt, c⟩ := at_later HC.out hrel.out.2 (Nat.le_refl _) h1
        go_wp2
        go_roundw
        case rel => exact ⟨k + 1, _, by go_num, rfl, by omega, by rw [cn_fres, hrel.out.1]; rfl, below_fwor hrel.out.2 _ _ _⟩
        case measure => simp [intOf]; omega
      · obtain rfl : k = n := by omega
        go_wp2
        go_ret
        exact ⟨_, rfl, hrel.out.1, hrel.out.2⟩
  · rw [if_neg h2]
    rw [decide_eq_false h2] at hl
    go_enter Try.func9, Try.ntmps9
    go_wp2_with (go_at_call 24; refine hl.mono ?_; rintro e w' ⟨rfl, hw⟩; obtain rfl := hw.symm)
    go_ret
    exact ⟨_, rfl, cn_zero, Below.refl _ _⟩

set_option maxHeartbeats 1000000 in
theorem step27 {w : World} {g n cap k S : Nat} {ao : Option Addr} {b off : Nat} {xs : Nat → Nat} (hk : k < n) (hg : w.cell? ⟨g, 0, none⟩ = some (.slice ao n cap)) (hao : ao = some ⟨b, off, none⟩) (hc : w.cell? ⟨b, off + k, none⟩ = some (.float .f64 (xs k))) :
    Calls Try.prog 27 #[.float .f64 S, .int .i64 k, .pointer (some ⟨g, 0, none⟩)] w fun e w' => ∃ S', e = .returned (.float .f64 S') ∧ cn S' = cop .add (cn S) (cn (xs k)) ∧ Below w.heap.size w w' := by
  subst hao
  have hA := rAdd
  go_enter Try.func27, Try.ntmps27
  go_wp2
  go_ret
  exact ⟨_, rfl, cn_fres _ _ _ _, below_fwor (Below.refl _ _) _ _ _⟩

set_option maxHeartbeats 1000000 in
theorem sum_impl {w : World} {v : Value} {n : Nat} {xs : Nat → Nat} (hv : Fl w v n xs) (hn : n ≤ 1048576) :
    Calls Try.prog 11 #[v] w fun e w' => ∃ S, e = .returned (.float .f64 S) ∧ cn S = (if n ≤ 200 then csum xs n else some 0) ∧ Below w.heap.size w w' := by
  have hl := fun W (hb : Below w.heap.size w W) => list_impl (hv.below hb) hn
  obtain ⟨ao, cap, rfl, hcap, hc⟩ := hv
  have HC : Hid _ := hc
  clear hc
  have hmf : ∀ (fn : Fn) (first cap : Array Value) (w : World), (Instr.makeFunc fn first cap).run Try.prog w = .ok (.func fn first cap) w := fun _ _ _ _ => rfl
  by_cases h2 : n ≤ 200
  · rw [if_pos h2]
    rw [decide_eq_true h2] at hl
    have hb0 : Below w.heap.size w (w.alloc (.cells #[.slice ao n cap] 22)) := below_one _ _
    have ho := over27 (w := w.alloc (.cells #[.slice ao n cap] 22)) h2 (.pointer (some ⟨w.heap.size, 0, none⟩)) 0 (csum xs) cn_zero (fun k hk S W hb hS => by
      obtain ⟨b, off, e, _, c⟩ := at_later HC.out (hb0.trans (hb.mono hb0.size)) (Nat.le_refl _) hk
      have hg : W.cell? ⟨w.heap.size, 0, none⟩ = some (.slice ao n cap) := (hb.cell (p := ⟨w.heap.size, 0, none⟩) (by simp)).trans (by simp)
      refine (step27 (xs := xs) hk hg e c).mono ?_
      rintro e w' ⟨S', rfl, h, hbl⟩
      exact ⟨S', rfl, by rw [h, hS]; rfl, hbl⟩)
    go_enter Try.func11, Try.ntmps11
    go_wp2_with (first | (go_at_call 25; refine (hl _ hb0).mono ?_; rintro e w' ⟨rfl, hw⟩; obtain rfl := hw.symm) | (go_at_call 26; refine ho.mono ?_; rintro e w1 ⟨S, rfl, hS, hb1⟩; have HS : Hid _ := hS; clear hS))
    go_ret
    exact ⟨_, rfl, HS.out, bstep hb0 hb1⟩
  · rw [if_neg h2]
    rw [decide_eq_false h2] at hl
    have hb0 : Below w.heap.size w (w.alloc (.cells #[.slice ao n cap] 22)) := below_one _ _
    go_enter Try.func11, Try.ntmps11
    go_wp2_with (go_at_call 25; refine (hl _ hb0).mono ?_; rintro e w' ⟨rfl, hw⟩; obtain rfl := hw.symm)
    go_ret
    exact ⟨_, rfl, cn_zero, hb0⟩

set_option maxHeartbeats 1000000 in
theorem walk_sum {w : World} {v : Value} {n : Nat} {xs : Nat → Nat} (hv : Fl w v n xs) (hn : n ≤ 9223372036854775807) :
    Calls Try.prog 3 #[v] w fun e w' => e = .returned (.bool true) ∧ Below w.heap.size w w' := by
  by_cases h : n ≤ 1048576
  · have FV : Hid (Fl w v n xs) := hv
    obtain ⟨ao, cap, rfl, hcap, hc⟩ := hv
    clear hc
    have HB : Hid (Below w.heap.size w w) := Below.refl _ _
    go_enter Try.func3, Try.ntmps3
    go_wp2_with (first
      | (go_at_call 13; refine (eq_yes FX.out FZ.out h).mono ?_; rintro e w7 ⟨rfl, hb⟩; have HB : Hid _ := bstep HB.out hb; clear hb)
      | (go_at_call 10; have MK := MARK; refine (copy_any FV.out h).mono ?_; rintro e w5 ⟨hb, v5, rfl, hv5⟩; have FX : Hid (Fl _ _ n xs) := FX.out.below hb; have FZ : Hid (Fl _ _ n xs) := hv5; have HB : Hid _ := bstep HB.out hb; clear hb hv5)
      | (go_at_call 10; refine (copy_any FV.out h).mono ?_; rintro e w1 ⟨hb, v1, rfl, hv1⟩; have FV : Hid (Fl _ _ n xs) := FV.out.below hb; have FX : Hid (Fl _ _ n xs) := hv1; have HB : Hid _ := bstep HB.out hb; clear hb hv1)
      | (go_at_call 9; refine (sum_spec FX.out h).mono ?_; rintro e w2 ⟨S1, rfl, hS, hb⟩; have HS1 : Hid _ := hS; have FV : Hid (Fl _ _ n xs) := FV.out.below hb; have HB : Hid _ := bstep HB.out hb; clear hb hS)
      | (go_at_call 11; refine (sum_impl FX.out h).mono ?_; rintro e w4 ⟨S2, rfl, hS, hb⟩; have HS2 : Hid _ := hS; have FV : Hid (Fl _ _ n xs) := FV.out.below hb; have FX : Hid (Fl _ _ n xs) := FX.out.below hb; have HB : Hid _ := bstep HB.out hb; clear hb hS)
      | (go_at_call 12; refine (same_yes _ _ _ (HS2.out.trans HS1.out.symm)).mono ?_; rintro e w6 ⟨rfl, hw⟩; obtain rfl := hw.symm; have MARK : Hid True := trivial))
    go_ret
    exact ⟨rfl, HB.out⟩
  · obtain ⟨ao, cap, rfl, hcap, hc⟩ := hv
    clear hc
    go_enter Try.func3, Try.ntmps3
    go_wp2
    go_ret
    exact ⟨rfl, Below.refl _ _⟩
end Go.Proofs.Ythmaeadfaomlkaa
