/- Least and Greatest of the program. -/
import Derived.Test.YtogamhaafcoemaaQ2
import Derived.Test.YtogamhaafcoemaaF3
import Derived.RegionTactic
import Derived.Deep.RegionWith
import Derived.Deep.RegionHeld3
namespace Go.Proofs.Ytogamhaafcoemaa
open Go.RowKit

theorem cn_zero : cn 0 = some 0 := by decide +kernel

theorem keepc {W w1 : World} (hb : Below W.heap.size W w1) {a : Addr} {v : Value} (h : W.cell? a = some v) : w1.cell? a = some v := (hb.cell (World.block_lt_of_cell? W _ h)).trans h

theorem below_one' (w : World) (o : Obj) : Below w.heap.size w (w.alloc o) := (Below.refl _ _).alloc (Nat.le_refl _) _

/-- The best of the first numbers, the first of all taken at first. -/
def bst (mx : Bool) (xs : Nat → Nat) : Nat → Option Nat
  | 0 => cn (xs 0)
  | k + 1 => pick mx (bst mx xs k) (cn (xs k))

theorem at_later {w wr : World} {ao : Option Addr} {n B k : Nat} {xs : Nat → Nat} (h : 0 < n → ∃ b off, ao = some ⟨b, off, none⟩ ∧ b < w.heap.size ∧ ∀ k, k < n → w.cell? ⟨b, off + k, none⟩ = some (.float .f64 (xs k))) (hb : Below B w wr) (hB : w.heap.size ≤ B) (hk : k < n) :
    ∃ b off, ao = some ⟨b, off, none⟩ ∧ b < w.heap.size ∧ wr.cell? ⟨b, off + k, none⟩ = some (.float .f64 (xs k)) := by
  obtain ⟨b, off, e, hlt, hc⟩ := h (by omega)
  exact ⟨b, off, e, hlt, (hb.cell (p := ⟨b, off + k, none⟩) (show b < B by omega)).trans (hc k hk)⟩

set_option maxHeartbeats 1000000 in
theorem step18 {w : World} {g n cap k S : Nat} {ao : Option Addr} {b off : Nat} {x : Nat} (hk : k < n) (hg : w.cell? ⟨g, 0, none⟩ = some (.slice ao n cap)) (hao : ao = some ⟨b, off, none⟩) (hc : w.cell? ⟨b, off + k, none⟩ = some (.float .f64 x)) (hS : S < 18446744073709551616) (hx : x < 18446744073709551616) :
    Calls Try.prog 18 #[.float .f64 S, .int .i64 k, .pointer (some ⟨g, 0, none⟩)] w fun e w' => ∃ S', e = .returned (.float .f64 S') ∧ (cn S' = pick false (cn S) (cn x) ∧ S' < 18446744073709551616) ∧ Below w.heap.size w w' := by
  subst hao
  have hA := run_min
  go_enter Try.func18, Try.ntmps18
  go_wp2
  go_ret
  exact ⟨_, rfl, ⟨cn_mres _ _ hS hx, mres_lt _ _ hS hx⟩, below_mwor (Below.refl _ _) _ _⟩

set_option maxHeartbeats 1000000 in
theorem over18 {w : World} {n : Nat} (hn : n ≤ 200) (c0 : Value) (S0 : Nat) (F : Nat → Option Nat) (h0 : cn S0 = F 0 ∧ S0 < 18446744073709551616)
    (hst : ∀ k, k < n → ∀ S W, Below w.heap.size w W → cn S = F k ∧ S < 18446744073709551616 → Calls Try.prog 18 #[.float .f64 S, .int .i64 k, c0] W fun e w' => ∃ S', e = .returned (.float .f64 S') ∧ (cn S' = F (k + 1) ∧ S' < 18446744073709551616) ∧ Below W.heap.size W w') :
    Calls Try.prog 17 #[.int .i64 n, .float .f64 S0, .func (.func 18) #[] #[c0]] w fun e w' => ∃ S, e = .returned (.float .f64 S) ∧ (cn S = F n ∧ S < 18446744073709551616) ∧ Below w.heap.size w w' := by
  have HST : Hid _ := hst
  have H0 : Hid _ := h0
  clear hst h0
  go_enter Try.func17, Try.ntmps17
  go_wp2
  go_loopw [1, 7, 9] (fun s _ i wr => ∃ k S : Nat, i = .int .i64 k ∧ s = .float .f64 S ∧ k ≤ n ∧ Hid ((cn S = F k ∧ S < 18446744073709551616) ∧ Below w.heap.size w wr)) (fun _ _ i _ => n - (intOf i).toNat)
  case atStart => exact ⟨0, S0, rfl, rfl, by omega, H0.out, Below.refl _ _⟩
  case round =>
    obtain ⟨k, S, rfl, rfl, hk, hrel⟩ := hrel
    by_cases h1 : k < n
    · have hc := HST.out k h1 S wr hrel.out.2 hrel.out.1
      go_wp2_with (go_at_call 18; refine hc.mono ?_; rintro e w1 ⟨S1, rfl, hS1, hb1⟩; have HS1 : Hid _ := hS1; clear hS1)
      go_roundw
      case rel => exact ⟨k + 1, S1, by go_num, rfl, by omega, HS1.out, bstep hrel.out.2 hb1⟩
      case measure => simp [intOf]; omega
    · obtain rfl : k = n := by omega
      go_wp2
      go_ret
      exact ⟨_, rfl, hrel.out.1, hrel.out.2⟩

set_option maxHeartbeats 2000000 in
theorem best_impl18 {w : World} {v : Value} {n : Nat} {xs : Nat → Nat} (hv : Fl w v n xs) (hxs : ∀ k, k < n → xs k < 18446744073709551616) (hn : n ≤ 1048576) :
    Calls Try.prog 8 #[v] w fun e w' => ∃ S, e = .returned (.float .f64 S) ∧ cn S = (if n ≤ 200 ∧ n ≠ 0 then bst false xs n else some 0) ∧ Below w.heap.size w w' := by
  have hl := fun W (hb : Below w.heap.size w W) => list_impl (hv.below hb) hn
  obtain ⟨ao, cap, rfl, hcap, hc⟩ := hv
  have HC : Hid _ := hc
  clear hc
  have hmf : ∀ (fn : Fn) (first cap : Array Value) (w : World), (Instr.makeFunc fn first cap).run Try.prog w = .ok (.func fn first cap) w := fun _ _ _ _ => rfl
  have hb0 : Below w.heap.size w (w.alloc (.cells #[.slice ao n cap] 22)) := below_one' _ _
  by_cases h3 : n = 0
  · rw [if_neg (fun h => h.2 h3)]
    subst h3
    go_enter Try.func8, Try.ntmps8
    go_wp2
    go_ret
    exact ⟨_, rfl, cn_zero, hb0⟩
  · have p0 : ((n : Int) == 0) = false := by simp; omega
    by_cases h2 : n ≤ 200
    · rw [decide_eq_true h2] at hl
      rw [if_pos ⟨h2, h3⟩]
      obtain ⟨b, off, rfl, hlt, c⟩ := at_later HC.out (Below.refl w.heap.size w) (Nat.le_refl _) (show 0 < n by omega)
      rw [Nat.add_zero] at c
      have c1 : (w.alloc (.cells #[.slice (some ⟨b, off, none⟩) n cap] 22)).cell? ⟨w.heap.size, 0, none⟩ = some (.slice (some ⟨b, off, none⟩) n cap) := by simp
      have c4 := keepc hb0 c
      have ho := over18 (w := (w.alloc (.cells #[.slice (some ⟨b, off, none⟩) n cap] 22)).drew) h2 (.pointer (some ⟨w.heap.size, 0, none⟩)) (xs 0) (bst false xs) ⟨rfl, hxs 0 (by omega)⟩ (fun k hk S W hb hS => by
        obtain ⟨b', off', e, _, c2⟩ := at_later HC.out (hb0.drew.trans (hb.mono hb0.size)) (Nat.le_refl _) hk
        have hg : W.cell? ⟨w.heap.size, 0, none⟩ = some (.slice (some ⟨b, off, none⟩) n cap) := (hb.cell (p := ⟨w.heap.size, 0, none⟩) (by show w.heap.size < (w.alloc _).heap.size; simp)).trans c1
        refine (step18 hk hg e c2 hS.2 (hxs k hk)).mono ?_
        rintro e w' ⟨S', rfl, h, hbl⟩
        exact ⟨S', rfl, ⟨by rw [h.1, hS.1]; rfl, h.2⟩, hbl⟩)
      have p1 : (0 : Int) < (n : Int) := by omega
      have p2 : 0 < n := by omega
      clear h3 c
      go_enter Try.func8, Try.ntmps8
      go_wp2_with (first | (go_at_call 16; refine (hl _ hb0).mono ?_; rintro e w' ⟨rfl, hw⟩; obtain rfl := hw.symm))
      go_region_held3 (fun W => W.cell? ⟨w.heap.size, 0, none⟩ = some (.slice (some ⟨b, off, none⟩) n cap) ∧ W.cell? ⟨b, off, none⟩ = some (.float .f64 (xs 0))) (go_keep) (first | (go_at_call 17; refine ho.mono ?_; rintro e w1 ⟨S, rfl, hS, hb2⟩; have HS : Hid _ := hS; clear hS; have q1 := keepc hb2 c1; have q3 := keepc hb2 c4))
      go_wp2
      go_ret
      exact ⟨_, rfl, HS.out.1, hb0.drew.trans (hb2.mono hb0.size)⟩
    · rw [if_neg (fun h => h2 h.1)]
      rw [decide_eq_false h2] at hl
      go_enter Try.func8, Try.ntmps8
      go_wp2_with (go_at_call 16; refine (hl _ hb0).mono ?_; rintro e w' ⟨rfl, hw⟩; obtain rfl := hw.symm)
      go_ret
      exact ⟨_, rfl, cn_zero, hb0⟩

set_option maxHeartbeats 1000000 in
theorem step19 {w : World} {g n cap k S : Nat} {ao : Option Addr} {b off : Nat} {x : Nat} (hk : k < n) (hg : w.cell? ⟨g, 0, none⟩ = some (.slice ao n cap)) (hao : ao = some ⟨b, off, none⟩) (hc : w.cell? ⟨b, off + k, none⟩ = some (.float .f64 x)) (hS : S < 18446744073709551616) (hx : x < 18446744073709551616) :
    Calls Try.prog 19 #[.float .f64 S, .int .i64 k, .pointer (some ⟨g, 0, none⟩)] w fun e w' => ∃ S', e = .returned (.float .f64 S') ∧ (cn S' = pick true (cn S) (cn x) ∧ S' < 18446744073709551616) ∧ Below w.heap.size w w' := by
  subst hao
  have hA := run_max
  go_enter Try.func19, Try.ntmps19
  go_wp2
  go_ret
  exact ⟨_, rfl, ⟨cn_mres _ _ hS hx, mres_lt _ _ hS hx⟩, below_mwor (Below.refl _ _) _ _⟩

set_option maxHeartbeats 1000000 in
theorem over19 {w : World} {n : Nat} (hn : n ≤ 200) (c0 : Value) (S0 : Nat) (F : Nat → Option Nat) (h0 : cn S0 = F 0 ∧ S0 < 18446744073709551616)
    (hst : ∀ k, k < n → ∀ S W, Below w.heap.size w W → cn S = F k ∧ S < 18446744073709551616 → Calls Try.prog 19 #[.float .f64 S, .int .i64 k, c0] W fun e w' => ∃ S', e = .returned (.float .f64 S') ∧ (cn S' = F (k + 1) ∧ S' < 18446744073709551616) ∧ Below W.heap.size W w') :
    Calls Try.prog 17 #[.int .i64 n, .float .f64 S0, .func (.func 19) #[] #[c0]] w fun e w' => ∃ S, e = .returned (.float .f64 S) ∧ (cn S = F n ∧ S < 18446744073709551616) ∧ Below w.heap.size w w' := by
  have HST : Hid _ := hst
  have H0 : Hid _ := h0
  clear hst h0
  go_enter Try.func17, Try.ntmps17
  go_wp2
  go_loopw [1, 7, 9] (fun s _ i wr => ∃ k S : Nat, i = .int .i64 k ∧ s = .float .f64 S ∧ k ≤ n ∧ Hid ((cn S = F k ∧ S < 18446744073709551616) ∧ Below w.heap.size w wr)) (fun _ _ i _ => n - (intOf i).toNat)
  case atStart => exact ⟨0, S0, rfl, rfl, by omega, H0.out, Below.refl _ _⟩
  case round =>
    obtain ⟨k, S, rfl, rfl, hk, hrel⟩ := hrel
    by_cases h1 : k < n
    · have hc := HST.out k h1 S wr hrel.out.2 hrel.out.1
      go_wp2_with (go_at_call 19; refine hc.mono ?_; rintro e w1 ⟨S1, rfl, hS1, hb1⟩; have HS1 : Hid _ := hS1; clear hS1)
      go_roundw
      case rel => exact ⟨k + 1, S1, by go_num, rfl, by omega, HS1.out, bstep hrel.out.2 hb1⟩
      case measure => simp [intOf]; omega
    · obtain rfl : k = n := by omega
      go_wp2
      go_ret
      exact ⟨_, rfl, hrel.out.1, hrel.out.2⟩

set_option maxHeartbeats 2000000 in
theorem best_impl19 {w : World} {v : Value} {n : Nat} {xs : Nat → Nat} (hv : Fl w v n xs) (hxs : ∀ k, k < n → xs k < 18446744073709551616) (hn : n ≤ 1048576) :
    Calls Try.prog 12 #[v] w fun e w' => ∃ S, e = .returned (.float .f64 S) ∧ cn S = (if n ≤ 200 ∧ n ≠ 0 then bst true xs n else some 0) ∧ Below w.heap.size w w' := by
  have hl := fun W (hb : Below w.heap.size w W) => list_impl (hv.below hb) hn
  obtain ⟨ao, cap, rfl, hcap, hc⟩ := hv
  have HC : Hid _ := hc
  clear hc
  have hmf : ∀ (fn : Fn) (first cap : Array Value) (w : World), (Instr.makeFunc fn first cap).run Try.prog w = .ok (.func fn first cap) w := fun _ _ _ _ => rfl
  have hb0 : Below w.heap.size w (w.alloc (.cells #[.slice ao n cap] 22)) := below_one' _ _
  by_cases h3 : n = 0
  · rw [if_neg (fun h => h.2 h3)]
    subst h3
    go_enter Try.func12, Try.ntmps12
    go_wp2
    go_ret
    exact ⟨_, rfl, cn_zero, hb0⟩
  · have p0 : ((n : Int) == 0) = false := by simp; omega
    by_cases h2 : n ≤ 200
    · rw [decide_eq_true h2] at hl
      rw [if_pos ⟨h2, h3⟩]
      obtain ⟨b, off, rfl, hlt, c⟩ := at_later HC.out (Below.refl w.heap.size w) (Nat.le_refl _) (show 0 < n by omega)
      rw [Nat.add_zero] at c
      have c1 : (w.alloc (.cells #[.slice (some ⟨b, off, none⟩) n cap] 22)).cell? ⟨w.heap.size, 0, none⟩ = some (.slice (some ⟨b, off, none⟩) n cap) := by simp
      have c4 := keepc hb0 c
      have ho := over19 (w := (w.alloc (.cells #[.slice (some ⟨b, off, none⟩) n cap] 22)).drew) h2 (.pointer (some ⟨w.heap.size, 0, none⟩)) (xs 0) (bst true xs) ⟨rfl, hxs 0 (by omega)⟩ (fun k hk S W hb hS => by
        obtain ⟨b', off', e, _, c2⟩ := at_later HC.out (hb0.drew.trans (hb.mono hb0.size)) (Nat.le_refl _) hk
        have hg : W.cell? ⟨w.heap.size, 0, none⟩ = some (.slice (some ⟨b, off, none⟩) n cap) := (hb.cell (p := ⟨w.heap.size, 0, none⟩) (by show w.heap.size < (w.alloc _).heap.size; simp)).trans c1
        refine (step19 hk hg e c2 hS.2 (hxs k hk)).mono ?_
        rintro e w' ⟨S', rfl, h, hbl⟩
        exact ⟨S', rfl, ⟨by rw [h.1, hS.1]; rfl, h.2⟩, hbl⟩)
      have p1 : (0 : Int) < (n : Int) := by omega
      have p2 : 0 < n := by omega
      clear h3 c
      go_enter Try.func12, Try.ntmps12
      go_wp2_with (first | (go_at_call 16; refine (hl _ hb0).mono ?_; rintro e w' ⟨rfl, hw⟩; obtain rfl := hw.symm))
      go_region_held3 (fun W => W.cell? ⟨w.heap.size, 0, none⟩ = some (.slice (some ⟨b, off, none⟩) n cap) ∧ W.cell? ⟨b, off, none⟩ = some (.float .f64 (xs 0))) (go_keep) (first | (go_at_call 17; refine ho.mono ?_; rintro e w1 ⟨S, rfl, hS, hb2⟩; have HS : Hid _ := hS; clear hS; have q1 := keepc hb2 c1; have q3 := keepc hb2 c4))
      go_wp2
      go_ret
      exact ⟨_, rfl, HS.out.1, hb0.drew.trans (hb2.mono hb0.size)⟩
    · rw [if_neg (fun h => h2 h.1)]
      rw [decide_eq_false h2] at hl
      go_enter Try.func12, Try.ntmps12
      go_wp2_with (go_at_call 16; refine (hl _ hb0).mono ?_; rintro e w' ⟨rfl, hw⟩; obtain rfl := hw.symm)
      go_ret
      exact ⟨_, rfl, cn_zero, hb0⟩
end Go.Proofs.Ytogamhaafcoemaa
