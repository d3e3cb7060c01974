/- CareSum on both sides. -/
import Derived.Test.YthmaeadfaomlkaaF7
namespace Go.Proofs.Ythmaeadfaomlkaa
open Go.RowKit

/-- The careful sum of the first numbers, and by how much it is too great. -/
def ccare (xs : Nat → Nat) : Nat → Option Nat × Option Nat
  | 0 => (some 0, some 0)
  | k + 1 => (cop .add (ccare xs k).1 (cop .sub (cn (xs k)) (ccare xs k).2), cop .sub (cop .sub (cop .add (ccare xs k).1 (cop .sub (cn (xs k)) (ccare xs k).2)) (ccare xs k).1) (cop .sub (cn (xs k)) (ccare xs k).2))

set_option maxHeartbeats 1000000 in
theorem care_spec {w : World} {v : Value} {n : Nat} {xs : Nat → Nat} (hv : Fl w v n xs) (hn : n ≤ 1048576) :
    Calls Try.prog 16 #[v] w fun e w' => ∃ S, e = .returned (.float .f64 S) ∧ cn S = (if n ≤ 200 then (ccare xs n).1 else some 0) ∧ Below w.heap.size w w' := by
  have hl := list_spec hv hn
  obtain ⟨ao, cap, rfl, hcap, hc⟩ := hv
  have HC : Hid _ := hc
  clear hc
  have hA := rAdd
  have hS := rSub
  by_cases h2 : n ≤ 200
  · rw [if_pos h2]
    rw [decide_eq_true h2] at hl
    go_enter Try.func16, Try.ntmps16
    go_wp2_with (go_at_call 24; refine hl.mono ?_; rintro e w' ⟨rfl, hw⟩; obtain rfl := hw.symm)
    go_loopw [3, 4, 5] (fun s c i wr => ∃ k S C : Nat, i = .int .i64 k ∧ s = .float .f64 S ∧ c = .float .f64 C ∧ k ≤ n ∧ Hid (cn S = (ccare xs k).1 ∧ cn C = (ccare xs k).2 ∧ Below w.heap.size w wr)) (fun _ _ i _ => n - (intOf i).toNat)
    case atStart => exact ⟨0, 0, 0, rfl, rfl, rfl, by omega, cn_zero, cn_zero, Below.refl _ _⟩
    case round =>
      obtain ⟨k, S, C, rfl, rfl, rfl, hk, hrel⟩ := hrel
      by_cases h1 : k < n
      · obtain ⟨b, off, rfl, hlt, c⟩ := at_later HC.out hrel.out.2.2 (Nat.le_refl _) h1
        go_wp2
        go_roundw
        case rel =>
          refine ⟨k + 1, _, _, by go_num, rfl, rfl, by omega, ?_, ?_, ?_⟩
          · simp only [cn_fres, hrel.out.1, hrel.out.2.1, ccare]
          · simp only [cn_fres, hrel.out.1, hrel.out.2.1, ccare]
          · repeat apply below_fwor
            exact hrel.out.2.2
        case measure => simp [intOf]; omega
      · obtain rfl : k = n := by omega
        go_wp2
        go_ret
        exact ⟨_, rfl, hrel.out.1, hrel.out.2.2⟩
  · rw [if_neg h2]
    rw [decide_eq_false h2] at hl
    go_enter Try.func16, Try.ntmps16
    go_wp2_with (go_at_call 24; refine hl.mono ?_; rintro e w' ⟨rfl, hw⟩; obtain rfl := hw.symm)
    go_ret
    exact ⟨_, rfl, cn_zero, Below.refl _ _⟩

set_option maxHeartbeats 1000000 in
theorem plus_any (S C x : Nat) (w : World) : Calls Try.prog 30 #[.agg #[.float .f64 S, .float .f64 C], .float .f64 x] w fun e w' => ∃ S' C', e = .returned (.agg #[.float .f64 S', .float .f64 C']) ∧ cn S' = cop .add (cn S) (cop .sub (cn x) (cn C)) ∧ cn C' = cop .sub (cop .sub (cop .add (cn S) (cop .sub (cn x) (cn C))) (cn S)) (cop .sub (cn x) (cn C)) ∧ Below w.heap.size w w' := by
  have hA := rAdd
  have hS := rSub
  have hfc := fwor_cell
  have hff := fwor_frozen
  have hST := rStore
  go_enter Try.func30, Try.ntmps30
  go_wp2
  refine bodyPost_ret (v := .agg #[.float .f64 _, .float .f64 _]) (by simp [results, Try.results30, fwor_cell, go_sem]; exact ⟨rfl, rfl⟩) rfl ⟨_, _, rfl, ?_, ?_, ?_⟩
  · simp only [cn_fres]
  · simp only [cn_fres]
  · refine Below.setCell (Below.setCell ?_ (Nat.le_succ _) _) (Nat.le_succ _) _
    repeat apply below_fwor
    exact ((Below.refl _ _).alloc (Nat.le_refl _) _).alloc (by simp) _

theorem keepf {W w1 : World} (hb : Below W.heap.size W w1) {a : Addr} {v : Value} (h : W.cell? a = some v) (hf : W.frozen? a = false) : w1.frozen? a = false := (hb.frozen (World.block_lt_of_cell? W _ h)).trans hf

set_option maxHeartbeats 1000000 in
theorem step29 {w : World} {g n cap k S C : Nat} {b off : Nat} {x : Nat} (hk : k < n) (hg : w.cell? ⟨g, 0, none⟩ = some (.slice (some ⟨b, off, none⟩) n cap)) (hc : w.cell? ⟨b, off + k, none⟩ = some (.float .f64 x)) :
    Calls Try.prog 29 #[.agg #[.float .f64 S, .float .f64 C], .int .i64 k, .pointer (some ⟨g, 0, none⟩)] w fun e w' => ∃ S' C', e = .returned (.agg #[.float .f64 S', .float .f64 C']) ∧ cn S' = cop .add (cn S) (cop .sub (cn x) (cn C)) ∧ cn C' = cop .sub (cop .sub (cop .add (cn S) (cop .sub (cn x) (cn C))) (cn S)) (cop .sub (cn x) (cn C)) ∧ Below w.heap.size w w' := by
  have ht := fun W => plus_any S C x W
  have hST := rStore
  have hb0 : Below w.heap.size w ((w.alloc (.cells #[.float .f64 S, .float .f64 C] 37)).alloc (.cells #[.float .f64 0, .float .f64 0] 37)) := (below_one _ _).alloc (by simp) _
  have l1 : g < w.heap.size := World.block_lt_of_cell? w _ hg
  have l2 : b < w.heap.size := World.block_lt_of_cell? w _ hc
  have ng : g ≠ w.heap.size + 1 := by omega
  have nb : b ≠ w.heap.size + 1 := by omega
  have ng' : w.heap.size + 1 ≠ g := by omega
  have nb' : w.heap.size + 1 ≠ b := by omega
  clear l1 l2
  have hg' := keepc hb0 hg
  have hc' := keepc hb0 hc
  clear hg hc
  go_enter Try.func29, Try.ntmps29
  go_wp2
  have s0 : ((w.alloc (.cells #[.float .f64 S, .float .f64 C] 37)).alloc (.cells #[.float .f64 0, .float .f64 0] 37)).cell? ⟨w.heap.size, 0, none⟩ = some (.float .f64 S) := by simp
  have s1 : ((w.alloc (.cells #[.float .f64 S, .float .f64 C] 37)).alloc (.cells #[.float .f64 0, .float .f64 0] 37)).cell? ⟨w.heap.size, 1, none⟩ = some (.float .f64 C) := by simp
  have r0 : ((w.alloc (.cells #[.float .f64 S, .float .f64 C] 37)).alloc (.cells #[.float .f64 0, .float .f64 0] 37)).cell? ⟨w.heap.size + 1, 0, none⟩ = some (.float .f64 0) := by simp
  have r1 : ((w.alloc (.cells #[.float .f64 S, .float .f64 C] 37)).alloc (.cells #[.float .f64 0, .float .f64 0] 37)).cell? ⟨w.heap.size + 1, 1, none⟩ = some (.float .f64 0) := by simp
  have z0 : ((w.alloc (.cells #[.float .f64 S, .float .f64 C] 37)).alloc (.cells #[.float .f64 0, .float .f64 0] 37)).frozen? ⟨w.heap.size + 1, 0, none⟩ = false := by simp
  have z1 : ((w.alloc (.cells #[.float .f64 S, .float .f64 C] 37)).alloc (.cells #[.float .f64 0, .float .f64 0] 37)).frozen? ⟨w.heap.size + 1, 1, none⟩ = false := by simp
  generalize ((w.alloc (.cells #[.float .f64 S, .float .f64 C] 37)).alloc (.cells #[.float .f64 0, .float .f64 0] 37)) = W0 at *
  go_region_held3 (fun W => W.cell? ⟨g, 0, none⟩ = some (.slice (some ⟨b, off, none⟩) n cap) ∧ W.cell? ⟨b, off + k, none⟩ = some (.float .f64 x) ∧ W.cell? ⟨w.heap.size, 0, none⟩ = some (.float .f64 S) ∧ W.cell? ⟨w.heap.size, 1, none⟩ = some (.float .f64 C)) (go_keep) (first | (go_at_call 30; refine (ht _).mono ?_; rintro e w1 ⟨S1, C1, rfl, hS1, hC1, hb1⟩; have HS1 : Hid _ := hS1; have HC1 : Hid _ := hC1; clear hS1 hC1; have q1 := keepc hb1 hg'; have q2 := keepc hb1 hc'; have q3 := keepc hb1 s0; have q4 := keepc hb1 s1; have q5 := keepc hb1 r0; have q6 := keepc hb1 r1; have q7 := keepf hb1 r0 z0; have q8 := keepf hb1 r1 z1))
  go_wp2
  refine bodyPost_ret (v := .agg #[.float .f64 S1, .float .f64 C1]) (by simp [results, Try.results29, go_sem, q5, q6]) rfl ⟨_, _, rfl, HS1.out, HC1.out, ?_⟩
  exact ((hb0.drew.trans (hb1.mono hb0.size)).setCell (Nat.le_succ _) _).setCell (Nat.le_succ _) _

set_option maxHeartbeats 1000000 in
theorem over29 {w : World} {n : Nat} (hn : n ≤ 200) (c0 : Value) (F : Nat → Option Nat × Option Nat) (h0 : F 0 = (some 0, some 0))
    (hst : ∀ k, k < n → ∀ S C W, Below w.heap.size w W → cn S = (F k).1 → cn C = (F k).2 → Calls Try.prog 29 #[.agg #[.float .f64 S, .float .f64 C], .int .i64 k, c0] W fun e w' => ∃ S' C', e = .returned (.agg #[.float .f64 S', .float .f64 C']) ∧ cn S' = (F (k + 1)).1 ∧ cn C' = (F (k + 1)).2 ∧ Below W.heap.size W w') :
    Calls Try.prog 28 #[.int .i64 n, .agg #[.float .f64 0, .float .f64 0], .func (.func 29) #[] #[c0]] w fun e w' => ∃ S C, e = .returned (.agg #[.float .f64 S, .float .f64 C]) ∧ cn S = (F n).1 ∧ Below w.heap.size w w' := by
  have HST : Hid _ := hst
  have H0 : Hid _ := h0
  clear hst h0
  have hST := rStore
  go_enter Try.func28, Try.ntmps28
  go_wp2
  go_loopw [7, 9] (fun _ i wr => ∃ k S C : Nat, i = .int .i64 k ∧ k ≤ n ∧ (wr.cell? ⟨w.heap.size, 0, none⟩ = some (.float .f64 S) ∧ wr.cell? ⟨w.heap.size, 1, none⟩ = some (.float .f64 C) ∧ wr.frozen? ⟨w.heap.size, 0, none⟩ = false ∧ wr.frozen? ⟨w.heap.size, 1, none⟩ = false) ∧ (wr.cell? ⟨w.heap.size + 1, 0, none⟩ = some (.float .f64 0) ∧ wr.cell? ⟨w.heap.size + 1, 1, none⟩ = some (.float .f64 0) ∧ wr.frozen? ⟨w.heap.size + 1, 0, none⟩ = false ∧ wr.frozen? ⟨w.heap.size + 1, 1, none⟩ = false) ∧ Hid (cn S = (F k).1 ∧ cn C = (F k).2 ∧ Below w.heap.size w wr)) (fun _ i _ => n - (intOf i).toNat)
  case atStart => exact ⟨0, 0, 0, rfl, by omega, by simp, by simp, by rw [H0.out]; exact cn_zero, by rw [H0.out]; exact cn_zero, (below_one _ _).alloc (by simp) _⟩
  case round =>
    obtain ⟨k, S, C, rfl, hk, ⟨s0, s1, z0, z1⟩, ⟨r0, r1, y0, y1⟩, hrel⟩ := hrel
    by_cases h1 : k < n
    · have hc := HST.out k h1 S C wr hrel.out.2.2 hrel.out.1 hrel.out.2.1
      go_wp2_with (go_at_call 29; refine hc.mono ?_; rintro e w1 ⟨S1, C1, rfl, hS1, hC1, hb1⟩; have HS1 : Hid _ := hS1; have HC1 : Hid _ := hC1; clear hS1 hC1; have q3 := keepc hb1 s0; have q4 := keepc hb1 s1; have q5 := keepf hb1 s0 z0; have q6 := keepf hb1 s1 z1; have t3 := keepc hb1 r0; have t4 := keepc hb1 r1; have t5 := keepf hb1 r0 y0; have t6 := keepf hb1 r1 y1)
      go_roundw
      case rel => exact ⟨k + 1, S1, C1, by go_num, by omega, by simp [go_sem, q3, q4, q5, q6], by simp [go_sem, t3, t4, t5, t6], HS1.out, HC1.out, ((bstep hrel.out.2.2 hb1).setCell (Nat.le_refl _) _).setCell (Nat.le_refl _) _⟩
      case measure => simp [intOf]; omega
    · obtain rfl : k = n := by omega
      go_wp2
      refine bodyPost_ret (v := .agg #[.float .f64 S, .float .f64 C]) (by simp [results, Try.results28, go_sem, r0, r1]) rfl ⟨_, _, rfl, hrel.out.1, ?_⟩
      exact (hrel.out.2.2.setCell (Nat.le_succ _) _).setCell (Nat.le_succ _) _

set_option maxHeartbeats 1000000 in
theorem care_impl {w : World} {v : Value} {n : Nat} {xs : Nat → Nat} (hv : Fl w v n xs) (hn : n ≤ 1048576) :
    Calls Try.prog 17 #[v] w fun e w' => ∃ S, e = .returned (.float .f64 S) ∧ cn S = (if n ≤ 200 then (ccare xs n).1 else some 0) ∧ Below w.heap.size w w' := by
  have hl := fun W (hb : Below w.heap.size w W) => list_impl (hv.below hb) hn
  obtain ⟨ao, cap, rfl, hcap, hc⟩ := hv
  have HC : Hid _ := hc
  clear hc
  have hST := rStore
  have hmf : ∀ (fn : Fn) (first cap : Array Value) (w : World), (Instr.makeFunc fn first cap).run Try.prog w = .ok (.func fn first cap) w := fun _ _ _ _ => rfl
  by_cases h2 : n ≤ 200
  · rw [if_pos h2]
    rw [decide_eq_true h2] at hl
    have hb0 : Below w.heap.size w (w.alloc (.cells #[.slice ao n cap] 22)) := below_one _ _
    have ho := over29 (w := w.alloc (.cells #[.slice ao n cap] 22)) h2 (.pointer (some ⟨w.heap.size, 0, none⟩)) (ccare xs) rfl (fun k hk S C W hb hS hC => by
      obtain ⟨b, off, e, _, c⟩ := at_later HC.out (hb0.trans (hb.mono hb0.size)) (Nat.le_refl _) hk
      subst e
      have hg : W.cell? ⟨w.heap.size, 0, none⟩ = some (.slice (some ⟨b, off, none⟩) n cap) := (hb.cell (p := ⟨w.heap.size, 0, none⟩) (by simp)).trans (by simp)
      refine (step29 hk hg c).mono ?_
      rintro e w' ⟨S', C', rfl, h, h', hbl⟩
      exact ⟨S', C', rfl, by rw [h, hS, hC]; rfl, by rw [h', hS, hC]; rfl, hbl⟩)
    go_enter Try.func17, Try.ntmps17
    go_wp2_with (first | (go_at_call 25; refine (hl _ hb0).mono ?_; rintro e w' ⟨rfl, hw⟩; obtain rfl := hw.symm) | (go_at_call 28; refine ho.mono ?_; rintro e w1 ⟨S, C, rfl, hS, hb1⟩; have HS : Hid _ := hS; clear hS))
    go_ret
    exact ⟨_, rfl, HS.out, (bstep hb0 hb1).alloc (by have := (bstep hb0 hb1).size; omega) _⟩
  · rw [if_neg h2]
    rw [decide_eq_false h2] at hl
    go_enter Try.func17, Try.ntmps17
    go_wp2_with (first | (go_at_call 25; refine (hl _ (below_one _ _)).mono ?_; rintro e w' ⟨rfl, hw⟩; obtain rfl := hw.symm))
    go_ret
    exact ⟨_, rfl, cn_zero, below_one _ _⟩

set_option maxHeartbeats 1000000 in
theorem walk_care {w : World} {v : Value} {n : Nat} {xs : Nat → Nat} (hv : Fl w v n xs) (hn : n ≤ 9223372036854775807) :
    Calls Try.prog 5 #[v] w fun e w' => e = .returned (.bool true) ∧ Below w.heap.size w w' := by
  by_cases h : n ≤ 1048576
  · have FV : Hid (Fl w v n xs) := hv
    obtain ⟨ao, cap, rfl, hcap, hc⟩ := hv
    clear hc
    have HB : Hid (Below w.heap.size w w) := Below.refl _ _
    go_enter Try.func5, Try.ntmps5
    go_wp2_with (first
      | (go_at_call 13; refine (eq_yes FX.out FZ.out h).mono ?_; rintro e w7 ⟨rfl, hb⟩; have HB : Hid _ := bstep HB.out hb; clear hb)
      | (go_at_call 10; have MK := MARK; refine (copy_any FV.out h).mono ?_; rintro e w5 ⟨hb, v5, rfl, hv5⟩; have FX : Hid (Fl _ _ n xs) := FX.out.below hb; have FZ : Hid (Fl _ _ n xs) := hv5; have HB : Hid _ := bstep HB.out hb; clear hb hv5)
      | (go_at_call 10; refine (copy_any FV.out h).mono ?_; rintro e w1 ⟨hb, v1, rfl, hv1⟩; have FV : Hid (Fl _ _ n xs) := FV.out.below hb; have FX : Hid (Fl _ _ n xs) := hv1; have HB : Hid _ := bstep HB.out hb; clear hb hv1)
      | (go_at_call 16; refine (care_spec FX.out h).mono ?_; rintro e w2 ⟨S1, rfl, hS, hb⟩; have HS1 : Hid _ := hS; have FV : Hid (Fl _ _ n xs) := FV.out.below hb; have HB : Hid _ := bstep HB.out hb; clear hb hS)
      | (go_at_call 17; refine (care_impl FX.out h).mono ?_; rintro e w4 ⟨S2, rfl, hS, hb⟩; have HS2 : Hid _ := hS; have FV : Hid (Fl _ _ n xs) := FV.out.below hb; have FX : Hid (Fl _ _ n xs) := FX.out.below hb; have HB : Hid _ := bstep HB.out hb; clear hb hS)
      | (go_at_call 12; refine (same_yes _ _ _ (HS2.out.trans HS1.out.symm)).mono ?_; rintro e w6 ⟨rfl, hw⟩; obtain rfl := hw.symm; have MARK : Hid True := trivial))
    go_ret
    exact ⟨rfl, HB.out⟩
  · obtain ⟨ao, cap, rfl, hcap, hc⟩ := hv
    clear hc
    go_enter Try.func5, Try.ntmps5
    go_wp2
    go_ret
    exact ⟨rfl, Below.refl _ _⟩
end Go.Proofs.Ythmaeadfaomlkaa
