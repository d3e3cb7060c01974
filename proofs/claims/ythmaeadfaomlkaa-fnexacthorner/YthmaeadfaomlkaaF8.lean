/- Horner on both sides. -/
import Derived.Test.YthmaeadfaomlkaaF7
namespace Go.Proofs.Ythmaeadfaomlkaa
open Go.RowKit

/-- The polynomial, from its last number on: k steps. -/
def chor (xs : Nat → Nat) (x : Option Nat) (n : Nat) : Nat → Option Nat
  | 0 => cn (xs (n - 1))
  | k + 1 => cop .add (cop .mul (chor xs x n k) x) (cn (xs (n - 2 - k)))

theorem wrap_in (x : Int) (h0 : -1000 ≤ x) (h1 : x ≤ 1000) : IntKind.i64.wrap x = x := by
  simp [IntKind.wrap, IntKind.bits, IntKind.signed]; omega

set_option maxHeartbeats 2000000 in
theorem horner_spec {w : World} {v : Value} {n : Nat} {xs : Nat → Nat} (x : Nat) (hv : Fl w v n xs) (hn : n ≤ 1048576) :
    Calls Try.prog 22 #[v, .float .f64 x] w fun e w' => ∃ S, e = .returned (.float .f64 S) ∧ cn S = (if n ≤ 200 ∧ n ≠ 0 then chor xs (cn x) n (n - 1) else some 0) ∧ Below w.heap.size w w' := by
  have hl := list_spec hv hn
  obtain ⟨ao, cap, rfl, hcap, hc⟩ := hv
  have HC : Hid _ := hc
  clear hc
  have hA := rAdd
  have hM := rMul
  by_cases h2 : n ≤ 200
  · rw [decide_eq_true h2] at hl
    by_cases h3 : n = 0
    · rw [if_neg (fun h => h.2 h3)]
      subst h3
      go_enter Try.func22, Try.ntmps22
      go_wp2_with (go_at_call 24; refine hl.mono ?_; rintro e w' ⟨rfl, hw⟩; obtain rfl := hw.symm)
      go_ret
      exact ⟨_, rfl, cn_zero, Below.refl _ _⟩
    · rw [if_pos ⟨h2, h3⟩]
      obtain ⟨L, rfl⟩ : ∃ L, n = L + 1 := ⟨n - 1, by omega⟩
      obtain ⟨b, off, rfl, hlt, c⟩ := at_later HC.out (Below.refl w.heap.size w) (Nat.le_refl _) (show L < L + 1 by omega)
      have hw1 := wrap_in (((L + 1 : Nat) : Int) - 1) (by omega) (by omega)
      have e1 : ((L + 1 : Nat) : Int) - 1 = (L : Int) := by omega
      rw [e1] at hw1
      go_enter Try.func22, Try.ntmps22
      go_wp2_with (go_at_call 24; refine hl.mono ?_; rintro e w' ⟨rfl, hw⟩; obtain rfl := hw.symm)
      go_loopw [5, 6] (fun s i wr => ∃ k S : Nat, i = .int .i64 ((L : Int) - 1 - k) ∧ s = .float .f64 S ∧ k ≤ L ∧ Hid (cn S = chor xs (cn x) (L + 1) k ∧ Below w.heap.size w wr)) (fun _ i _ => (intOf i + 1).toNat)
      case atStart => exact ⟨0, _, by go_num, rfl, by omega, rfl, Below.refl _ _⟩
      case round =>
        obtain ⟨k, S, rfl, rfl, hk, hrel⟩ := hrel
        by_cases h1 : k < L
        · obtain ⟨j, rfl⟩ : ∃ j, L = k + 1 + j := ⟨L - k - 1, by omega⟩
          obtain ⟨b', off', e2, _, c2⟩ := at_later HC.out hrel.out.2 (Nat.le_refl _) (show j < k + 1 + j + 1 by omega)
          cases e2
          have e3 : ((k + 1 + j : Nat) : Int) - 1 - k = (j : Int) := by omega
          have hfc := fwor_cell
          rw [e3]
          go_wp2
          go_roundw
          case rel => exact ⟨k + 1, _, by go_num, rfl, by omega, by rw [cn_fres, cn_fres, hrel.out.1]; simp only [chor]; rw [show k + 1 + j + 1 - 2 - k = j by omega], below_fwor (below_fwor hrel.out.2 _ _ _) _ _ _⟩
          case measure => simp [intOf]
        · obtain rfl : k = L := by omega
          have e3 : ((k : Nat) : Int) - 1 - k = -1 := by omega
          rw [e3]
          go_wp2
          go_ret
          exact ⟨_, rfl, hrel.out.1, hrel.out.2⟩
  · rw [if_neg (fun h => h2 h.1)]
    rw [decide_eq_false h2] at hl
    go_enter Try.func22, Try.ntmps22
    go_wp2_with (go_at_call 24; refine hl.mono ?_; rintro e w' ⟨rfl, hw⟩; obtain rfl := hw.symm)
    go_ret
    exact ⟨_, rfl, cn_zero, Below.refl _ _⟩

set_option maxHeartbeats 2000000 in
theorem step33 {w : World} {g h i cap k j L N S : Nat} {b off : Nat} {x y : Nat} (hL : L = k + 1 + j) (hN : N = L + 1) (h2 : L ≤ 200) (hx : w.cell? ⟨g, 0, none⟩ = some (.float .f64 x)) (hh : w.cell? ⟨h, 0, none⟩ = some (.slice (some ⟨b, off, none⟩) N cap)) (hi : w.cell? ⟨i, 0, none⟩ = some (.int .i64 (L : Int))) (hc : w.cell? ⟨b, off + j, none⟩ = some (.float .f64 y)) :
    Calls Try.prog 33 #[.float .f64 S, .int .i64 k, .pointer (some ⟨g, 0, none⟩), .pointer (some ⟨h, 0, none⟩), .pointer (some ⟨i, 0, none⟩)] w fun e w' => ∃ S', e = .returned (.float .f64 S') ∧ cn S' = cop .add (cop .mul (cn S) (cn x)) (cn y) ∧ Below w.heap.size w w' := by
  have ht := fun W => times_plus S x y W
  have hw1 := wrap_in ((L : Int) - 1) (by omega) (by omega)
  have hw2 := wrap_in ((L : Int) - 1 - k) (by omega) (by omega)
  have e3 : (L : Int) - 1 - k = (j : Int) := by omega
  rw [e3] at hw2
  have p1 : (0 : Int) ≤ (j : Int) := by omega
  have p2 : (j : Int) < (N : Int) := by omega
  have p3 : j < N := by omega
  clear hL hN h2
  go_enter Try.func33, Try.ntmps33
  go_wp2
  go_region_held3 (fun W => W.cell? ⟨g, 0, none⟩ = some (.float .f64 x) ∧ W.cell? ⟨h, 0, none⟩ = some (.slice (some ⟨b, off, none⟩) N cap) ∧ W.cell? ⟨i, 0, none⟩ = some (.int .i64 (L : Int)) ∧ W.cell? ⟨b, off + j, none⟩ = some (.float .f64 y)) (go_keep) (first | (go_at_call 32; refine (ht _).mono ?_; rintro e w1 ⟨S1, rfl, hS1, hb1⟩; have HS1 : Hid _ := hS1; clear hS1; have q1 := keepc hb1 hx; have q2 := keepc hb1 hh; have q3 := keepc hb1 hi; have q4 := keepc hb1 hc))
  go_wp2
  go_ret
  exact ⟨_, rfl, HS1.out, bstep ((Below.refl _ _).drew) hb1⟩

theorem drew_cell (w : World) (a : Addr) : w.drew.cell? a = w.cell? a := rfl

theorem new_one (w : World) (v : Value) (t : TypeId) (g : Nat) (hg : w.heap.size = g) : (w.alloc (.cells #[v] t)).cell? ⟨g, 0, none⟩ = some v := by
  subst hg
  simp

theorem three (w : World) (A X L : Value) (tA tX tL : TypeId) : (((w.alloc (.cells #[A] tA)).alloc (.cells #[X] tX)).alloc (.cells #[L] tL)).drew.cell? ⟨w.heap.size, 0, none⟩ = some A ∧
    (((w.alloc (.cells #[A] tA)).alloc (.cells #[X] tX)).alloc (.cells #[L] tL)).drew.cell? ⟨w.heap.size + 1, 0, none⟩ = some X ∧
    (((w.alloc (.cells #[A] tA)).alloc (.cells #[X] tX)).alloc (.cells #[L] tL)).drew.cell? ⟨w.heap.size + 1 + 1, 0, none⟩ = some L :=
  ⟨keepc (below_one _ _) (keepc (below_one _ _) (new_one w A tA _ rfl)), keepc (below_one _ _) (new_one _ X tX _ (by simp)), new_one _ L tL _ (by simp)⟩

set_option maxHeartbeats 2000000 in
theorem horner_impl {w : World} {v : Value} {n : Nat} {xs : Nat → Nat} (x : Nat) (hv : Fl w v n xs) (hn : n ≤ 1048576) :
    Calls Try.prog 23 #[v, .float .f64 x] w fun e w' => ∃ S, e = .returned (.float .f64 S) ∧ cn S = (if n ≤ 200 ∧ n ≠ 0 then chor xs (cn x) n (n - 1) else some 0) ∧ Below w.heap.size w w' := by
  have hl := fun W (hb : Below w.heap.size w W) => list_impl (hv.below hb) hn
  obtain ⟨ao, cap, rfl, hcap, hc⟩ := hv
  have HC : Hid _ := hc
  clear hc
  have hmf : ∀ (fn : Fn) (first cap : Array Value) (w : World), (Instr.makeFunc fn first cap).run Try.prog w = .ok (.func fn first cap) w := fun _ _ _ _ => rfl
  have hb0 : Below w.heap.size w ((w.alloc (.cells #[.slice ao n cap] 22)).alloc (.cells #[.float .f64 x] 23)) := (below_one _ _).alloc (by simp) _
  by_cases h3 : n = 0
  · rw [if_neg (fun h => h.2 h3)]
    subst h3
    go_enter Try.func23, Try.ntmps23
    go_wp2
    go_ret
    exact ⟨_, rfl, cn_zero, hb0⟩
  · by_cases h2 : n ≤ 200
    · rw [decide_eq_true h2] at hl
      rw [if_pos ⟨h2, h3⟩]
      obtain ⟨L, hL⟩ : ∃ L, n = L + 1 := ⟨n - 1, by omega⟩
      obtain ⟨b, off, rfl, hlt, c⟩ := at_later HC.out (Below.refl w.heap.size w) (Nat.le_refl _) (show L < n by omega)
      have hw1 := wrap_in ((n : Int) - 1) (by omega) (by omega)
      have e1 : (n : Int) - 1 = (L : Int) := by omega
      have hb1 : Below w.heap.size w ((((w.alloc (.cells #[.slice (some ⟨b, off, none⟩) n cap] 22)).alloc (.cells #[.float .f64 x] 23)).alloc (.cells #[.int .i64 (L : Int)] 3)).drew) := (hb0.alloc (by simp; omega) _).drew
      have ho := over33 (w := (((w.alloc (.cells #[.slice (some ⟨b, off, none⟩) n cap] 22)).alloc (.cells #[.float .f64 x] 23)).alloc (.cells #[.int .i64 (L : Int)] 3)).drew) (n := L) (by omega) (.pointer (some ⟨w.heap.size + 1, 0, none⟩)) (.pointer (some ⟨w.heap.size, 0, none⟩)) (.pointer (some ⟨w.heap.size + 1 + 1, 0, none⟩)) (xs L) (chor xs (cn x) n) (by rw [hL]; rfl) (fun k hk S W hb hS => by
        obtain ⟨j, hj⟩ : ∃ j, L = k + 1 + j := ⟨L - k - 1, by omega⟩
        obtain ⟨b', off', e2, _, c2⟩ := at_later HC.out (hb1.trans (hb.mono hb1.size)) (Nat.le_refl _) (show j < n by omega)
        cases e2
        refine (step33 hj hL (by omega) (keepc hb (three w _ _ _ _ _ _).2.1) (keepc hb (three w _ _ _ _ _ _).1) (keepc hb (three w _ _ _ _ _ _).2.2) c2).mono ?_
        rintro e w' ⟨S', rfl, h, hbl⟩
        exact ⟨S', rfl, by rw [h, hS]; simp only [chor]; rw [show n - 2 - k = j by omega], hbl⟩)
      have c1 := (three w (.slice (some ⟨b, off, none⟩) n cap) (.float .f64 x) (.int .i64 (L : Int)) 22 23 3).1
      have c3 := (three w (.slice (some ⟨b, off, none⟩) n cap) (.float .f64 x) (.int .i64 (L : Int)) 22 23 3).2.2
      have c4 := (hb1.cell (p := ⟨b, off + L, none⟩) hlt).trans c
      rw [drew_cell] at c1 c3 c4
      rw [show n - 1 = L by omega]
      have p0 : ((n : Int) == 0) = false := by simp; omega
      have p1 : (0 : Int) ≤ (L : Int) := by omega
      have p2 : (L : Int) < (n : Int) := by omega
      have p3 : L < n := by omega
      rw [e1] at hw1
      have e4 : IntKind.i64.wrap ((n : Int) - 1) = (L : Int) := by rw [e1]; exact hw1
      have HL : Hid (n = L + 1) := hL
      clear hL h3 c
      go_enter Try.func23, Try.ntmps23
      go_wp2_with (first | (go_at_call 25; refine (hl _ hb0).mono ?_; rintro e w' ⟨rfl, hw⟩; obtain rfl := hw.symm))
      go_region_held3 (fun W => W.cell? ⟨w.heap.size, 0, none⟩ = some (.slice (some ⟨b, off, none⟩) n cap) ∧ W.cell? ⟨w.heap.size + 1 + 1, 0, none⟩ = some (.int .i64 (L : Int)) ∧ W.cell? ⟨b, off + L, none⟩ = some (.float .f64 (xs L))) (go_keep) (first | (go_at_call 26; refine ho.mono ?_; rintro e w1 ⟨S, rfl, hS, hb2⟩; have HS : Hid _ := hS; clear hS; have q1 := keepc hb2 c1; have q2 := keepc hb2 c3; have q3 := keepc hb2 c4))
      go_wp2
      go_ret
      exact ⟨_, rfl, HS.out, hb1.trans (hb2.mono hb1.size)⟩
    · rw [if_neg (fun h => h2 h.1)]
      rw [decide_eq_false h2] at hl
      go_enter Try.func23, Try.ntmps23
      go_wp2_with (go_at_call 25; refine (hl _ hb0).mono ?_; rintro e w' ⟨rfl, hw⟩; obtain rfl := hw.symm)
      go_ret
      exact ⟨_, rfl, cn_zero, hb0⟩

set_option maxHeartbeats 1000000 in
theorem walk_horner {w : World} {v : Value} {n : Nat} {xs : Nat → Nat} (x : Nat) (hv : Fl w v n xs) (hn : n ≤ 9223372036854775807) :
    Calls Try.prog 8 #[v, .float .f64 x] w fun e w' => e = .returned (.bool true) ∧ Below w.heap.size w w' := by
  by_cases h : n ≤ 1048576
  · have FV : Hid (Fl w v n xs) := hv
    obtain ⟨ao, cap, rfl, hcap, hc⟩ := hv
    clear hc
    have HB : Hid (Below w.heap.size w w) := Below.refl _ _
    go_enter Try.func8, Try.ntmps8
    go_wp2_with (first
      | (go_at_call 13; refine (eq_yes FX.out FZ.out h).mono ?_; rintro e w7 ⟨rfl, hb⟩; have HB : Hid _ := bstep HB.out hb; clear hb)
      | (go_at_call 10; have MK := MARK; refine (copy_any FV.out h).mono ?_; rintro e w5 ⟨hb, v5, rfl, hv5⟩; have FX : Hid (Fl _ _ n xs) := FX.out.below hb; have FZ : Hid (Fl _ _ n xs) := hv5; have HB : Hid _ := bstep HB.out hb; clear hb hv5)
      | (go_at_call 10; refine (copy_any FV.out h).mono ?_; rintro e w1 ⟨hb, v1, rfl, hv1⟩; have FV : Hid (Fl _ _ n xs) := FV.out.below hb; have FX : Hid (Fl _ _ n xs) := hv1; have HB : Hid _ := bstep HB.out hb; clear hb hv1)
      | (go_at_call 22; refine (horner_spec x FX.out h).mono ?_; rintro e w2 ⟨S1, rfl, hS, hb⟩; have HS1 : Hid _ := hS; have FV : Hid (Fl _ _ n xs) := FV.out.below hb; have HB : Hid _ := bstep HB.out hb; clear hb hS)
      | (go_at_call 23; refine (horner_impl x FX.out h).mono ?_; rintro e w4 ⟨S2, rfl, hS, hb⟩; have HS2 : Hid _ := hS; have FV : Hid (Fl _ _ n xs) := FV.out.below hb; have FX : Hid (Fl _ _ n xs) := FX.out.below hb; have HB : Hid _ := bstep HB.out hb; clear hb hS)
      | (go_at_call 12; refine (same_yes _ _ _ (HS2.out.trans HS1.out.symm)).mono ?_; rintro e w6 ⟨rfl, hw⟩; obtain rfl := hw.symm; have MARK : Hid True := trivial))
    go_ret
    exact ⟨rfl, HB.out⟩
  · obtain ⟨ao, cap, rfl, hcap, hc⟩ := hv
    clear hc
    go_enter Try.func8, Try.ntmps8
    go_wp2
    go_ret
    exact ⟨rfl, Below.refl _ _⟩
end Go.Proofs.Ythmaeadfaomlkaa
