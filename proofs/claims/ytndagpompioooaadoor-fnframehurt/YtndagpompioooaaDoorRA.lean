/- Numbers folded, and how many bits they have: both sides. -/
import Derived.Test.YtndagpompioooaaDoorWA
namespace Go.Proofs.YtndagpompioooaaDoor
open Go.RowKit

/-- A number folded: those below 0 lie between the others. -/
def zig (x : Int) : Nat := if x < 0 then (-2 * x - 1).toNat else (2 * x).toNat

theorem zig_neg {x : Int} (h : x < 0) : ((zig x : Nat) : Int) = -2 * x - 1 := by unfold zig; rw [if_pos h]; omega
theorem zig_pos {x : Int} (h : ¬ x < 0) : ((zig x : Nat) : Int) = 2 * x := by unfold zig; rw [if_neg h]; omega

theorem zig_le {x : Int} (h : -1000000000 ≤ x ∧ x ≤ 1000000000) : zig x ≤ 2000000000 := by
  by_cases h1 : x < 0
  · have := zig_neg h1; omega
  · have := zig_pos h1; omega

/-- How many bits the first i numbers have. -/
def rbt (k : Nat) (xs : Nat → Int) : Nat → Nat
  | 0 => 0
  | i + 1 => rbt k xs i + (zig (xs i) / 2 ^ k + 1 + k)

/-- Numbers that can be told as bits. -/
abbrev Rc (n : Nat) (xs : Nat → Int) : Prop := n ≤ 128 ∧ Wth 1000000000 n xs

theorem rbt_le {k n : Nat} {xs : Nat → Int} (hk : k ≤ 30) (h : Wth 1000000000 n xs) (i : Nat) (hi : i ≤ n) : rbt k xs i ≤ i * 2000000031 := by
  induction i with
  | zero => exact Nat.zero_le _
  | succ i ih =>
    have h1 := ih (by omega)
    have h2 := zig_le (h i (by omega))
    have h3 := Nat.div_le_self (zig (xs i)) (2 ^ k)
    show rbt k xs i + (zig (xs i) / 2 ^ k + 1 + k) ≤ _
    omega

theorem rbt_mono (k : Nat) (xs : Nat → Int) {i n : Nat} (h : i ≤ n) : rbt k xs i ≤ rbt k xs n := by
  induction n with
  | zero => obtain rfl : i = 0 := by omega
            exact Nat.le_refl _
  | succ n ih =>
    by_cases h1 : i = n + 1
    · subst h1; exact Nat.le_refl _
    · refine Nat.le_trans (ih (by omega)) ?_
      exact Nat.le_add_right _ _

theorem iZig_any {x : Int} (h : -1000000000 ≤ x ∧ x ≤ 1000000000) (w : World) : Calls Tryd.prog 45 #[.int .i64 x] w fun e w' => e = .returned (.int .i64 ((zig x : Nat) : Int)) ∧ w' = w := by
  by_cases h1 : x < 0
  · rw [zig_neg h1]
    go_enter Tryd.func45, Tryd.ntmps45
    go_wp2
    go_ret
    exact ⟨rfl, rfl⟩
  · rw [zig_pos h1]
    go_enter Tryd.func45, Tryd.ntmps45
    go_wp2
    go_ret
    exact ⟨rfl, rfl⟩

theorem sZig_any {x : Int} (h : -1000000000 ≤ x ∧ x ≤ 1000000000) (w : World) : Calls Tryd.prog 47 #[.int .i64 x] w fun e w' => e = .returned (.int .i64 ((zig x : Nat) : Int)) ∧ w' = w := by
  by_cases h1 : x < 0
  · rw [zig_neg h1]
    go_enter Tryd.func47, Tryd.ntmps47
    go_wp2
    go_ret
    exact ⟨rfl, rfl⟩
  · rw [zig_pos h1]
    go_enter Tryd.func47, Tryd.ntmps47
    go_wp2
    go_ret
    exact ⟨rfl, rfl⟩

theorem low_any (x : Int) (w : World) : Calls Tryd.prog 44 #[.int .i64 x] w fun e w' => e = .returned (.bool (decide (0 ≤ x ∧ x ≤ 30))) ∧ w' = w := by
  go_enter Tryd.func44, Tryd.ntmps44
  by_cases h : 0 ≤ x
  · by_cases h1 : x ≤ 30
    · go_wp2
      go_ret
      exact ⟨by simp [h, h1], rfl⟩
    · go_wp2
      go_ret
      exact ⟨by simp [h1], rfl⟩
  · go_wp2
    go_ret
    exact ⟨by simp; omega, rfl⟩

theorem rice_any {w : World} {v : Value} {n : Nat} {xs : Nat → Int} (hv : Il w v n xs) (hn : n ≤ 1048576) : Calls Tryd.prog 41 #[v] w fun e w' => e = .returned (.bool (decide (Rc n xs))) ∧ w' = w := by
  have i1 := iWth_any (M := 1000000000) hv hn (by omega)
  obtain ⟨ao, cap, rfl, hcap, hc⟩ := hv
  clear hc
  by_cases h : n ≤ 128
  · have e : decide (Rc n xs) = decide (Wth 1000000000 n xs) := decide_eq_decide.2 ⟨fun h => h.2, fun h2 => ⟨h, h2⟩⟩
    rw [e]
    generalize decide (Wth 1000000000 n xs) = d at *
    go_enter Tryd.func41, Tryd.ntmps41
    go_wp2_with (first | (go_at_call 72; (with_reducible refine (i1).mono ?_); rintro e w' ⟨rfl, hw⟩; obtain rfl := hw.symm))
    go_ret
    exact ⟨rfl, rfl⟩
  · rw [decide_eq_false (fun h2 => h h2.1)]
    clear i1
    go_enter Tryd.func41, Tryd.ntmps41
    go_wp2
    go_ret
    exact ⟨rfl, rfl⟩

set_option maxHeartbeats 2000000 in
theorem ibits_any {w : World} {v : Value} {n : Nat} {xs : Nat → Int} (hv : Il w v n xs) (h : Rc n xs) {k : Nat} (hk : k ≤ 30) : Calls Tryd.prog 42 #[.int .i64 (k : Int), v] w fun e w' => e = .returned (.int .i64 ((rbt k xs n : Nat) : Int)) ∧ w' = w := by
  have h5 := h.1
  have HBT : Hid (∀ k, k < n → -1000000000 ≤ xs k ∧ xs k ≤ 1000000000) := h.2
  have HLE : Hid (∀ i, i ≤ n → rbt k xs i ≤ i * 2000000031) := fun i hi => rbt_le hk h.2 i hi
  obtain ⟨ao, cap, rfl, hcap, hc⟩ := hv
  have HC : Hid (0 < n → ∃ b off, ao = some ⟨b, off, none⟩ ∧ b < w.heap.size ∧ ∀ k, k < n → w.cell? ⟨b, off + k, none⟩ = some (.int .i64 (xs k))) := hc
  obtain ⟨z, hz⟩ : ∃ z : Nat, z = rbt k xs n := ⟨_, rfl⟩
  rw [← hz]
  have HZ : Hid (z = rbt k xs n) := hz
  have hk9 : (0 : Int) ≤ (k : Int) ∧ (k : Int) ≤ 30 := by omega
  clear hc h hz
  go_enter Tryd.func42, Tryd.ntmps42
  go_wp2
  go_loopw [5, 7, 10] (fun q _ iv wr => ∃ (i s : Nat), iv = .int .i64 i ∧ q = .int .i64 s ∧ i ≤ n ∧ wr = w ∧ s ≤ i * 2000000031 ∧ Hid (s = rbt k xs i)) (fun _ _ iv _ => n - (intOf iv).toNat)
  case atStart => exact ⟨0, 0, rfl, rfl, by omega, rfl, by omega, rfl⟩
  case round =>
    obtain ⟨i, s, rfl, rfl, hi, rfl, hs, hrel⟩ := hrel
    by_cases h1 : i < n
    · obtain ⟨b, off, rfl, hlt, hcell⟩ := HC.out (by omega)
      have c := hcell i h1
      have hb := HBT.out i h1
      have hu := zig_le hb
      have iz := iZig_any hb wr
      have HR : Hid (s + (zig (xs i) / 2 ^ k + 1 + k) = rbt k xs (i + 1)) := by show _ = rbt k xs i + _; rw [hrel.out]
      generalize zig (xs i) = u at *
      generalize xs i = x at *
      obtain ⟨y, hy⟩ : ∃ y : Nat, y = u / 2 ^ k := ⟨_, rfl⟩
      have hyb : y ≤ u := by rw [hy]; exact Nat.div_le_self _ _
      have e1 : (u : Int) / 2 ^ k = (y : Int) := by rw [hy, Int.natCast_ediv, Int.natCast_pow]; rfl
      rw [← hy] at HR
      clear hcell hrel hy
      go_wp2_with (first | (go_at_call 45; (with_reducible refine iz.mono ?_); rintro e w' ⟨rfl, hw⟩; obtain rfl := hw.symm))
      go_roundw
      case rel => exact ⟨i + 1, s + (y + 1 + k), by go_num, by go_num, by omega, by trivial, by omega, HR.out⟩
      case measure => simp [intOf]; omega
    · obtain rfl : i = n := by omega
      obtain rfl : s = z := by rw [hrel.out, HZ.out]
      go_wp2
      go_ret
      exact ⟨rfl, rfl⟩

set_option maxHeartbeats 2000000 in
theorem smany_any {w : World} {v : Value} {n : Nat} {xs : Nat → Int} (hv : Il w v n xs) (h : Rc n xs) {k : Nat} (hk : k ≤ 30) : Calls Tryd.prog 43 #[.int .i64 (k : Int), v] w fun e w' => e = .returned (.tuple #[.int .i64 ((rbt k xs n : Nat) : Int), .bool (decide (((rbt k xs n : Nat) : Int) ≤ 100000))]) ∧ w' = w := by
  have h5 := h.1
  have i1 := sWth_any (M := 1000000000) hv (by omega) (by omega)
  rw [decide_eq_true h.2] at i1
  have i2 := in_any (k : Int) 0 30
  rw [decide_eq_true (by omega)] at i2
  have HBT : Hid (∀ k, k < n → -1000000000 ≤ xs k ∧ xs k ≤ 1000000000) := h.2
  have HLE : Hid (∀ i, i ≤ n → rbt k xs i ≤ i * 2000000031) := fun i hi => rbt_le hk h.2 i hi
  obtain ⟨ao, cap, rfl, hcap, hc⟩ := hv
  have HC : Hid (0 < n → ∃ b off, ao = some ⟨b, off, none⟩ ∧ b < w.heap.size ∧ ∀ k, k < n → w.cell? ⟨b, off + k, none⟩ = some (.int .i64 (xs k))) := hc
  obtain ⟨z, hz⟩ : ∃ z : Nat, z = rbt k xs n := ⟨_, rfl⟩
  rw [← hz]
  have HZ : Hid (z = rbt k xs n) := hz
  have hk9 : (0 : Int) ≤ (k : Int) ∧ (k : Int) ≤ 30 := by omega
  clear hc h hz
  go_enter Tryd.func43, Tryd.ntmps43
  go_wp2_with (first | (go_at_call 73; (with_reducible refine (i1).mono ?_); rintro e w' ⟨rfl, hw⟩; obtain rfl := hw.symm) | (go_at_call 59; (with_reducible refine (i2 _).mono ?_); rintro e w' ⟨rfl, hw⟩; obtain rfl := hw.symm))
  clear i1 i2
  go_loopw [6, 7] (fun q iv wr => ∃ (i s : Nat), iv = .int .i64 i ∧ q = .int .i64 s ∧ i ≤ n ∧ wr = w ∧ s ≤ i * 2000000031 ∧ Hid (s = rbt k xs i)) (fun _ iv _ => n - (intOf iv).toNat)
  case atStart => exact ⟨0, 0, rfl, rfl, by omega, rfl, by omega, rfl⟩
  case round =>
    obtain ⟨i, s, rfl, rfl, hi, rfl, hs, hrel⟩ := hrel
    by_cases h1 : i < n
    · obtain ⟨b, off, rfl, hlt, hcell⟩ := HC.out (by omega)
      have c := hcell i h1
      have hb := HBT.out i h1
      have hu := zig_le hb
      have iz := sZig_any hb wr
      have HR : Hid (s + (zig (xs i) / 2 ^ k + 1 + k) = rbt k xs (i + 1)) := by show _ = rbt k xs i + _; rw [hrel.out]
      generalize zig (xs i) = u at *
      generalize xs i = x at *
      obtain ⟨y, hy⟩ : ∃ y : Nat, y = u / 2 ^ k := ⟨_, rfl⟩
      have hyb : y ≤ u := by rw [hy]; exact Nat.div_le_self _ _
      have e1 : (u : Int) / 2 ^ k = (y : Int) := by rw [hy, Int.natCast_ediv, Int.natCast_pow]; rfl
      rw [← hy] at HR
      clear hcell hrel hy
      go_wp2_with (first | (go_at_call 47; (with_reducible refine iz.mono ?_); rintro e w' ⟨rfl, hw⟩; obtain rfl := hw.symm))
      go_roundw
      case rel => exact ⟨i + 1, s + (y + 1 + k), by go_num, by go_num, by omega, by trivial, by omega, HR.out⟩
      case measure => simp [intOf]; omega
    · obtain rfl : i = n := by omega
      obtain rfl : s = z := by rw [hrel.out, HZ.out]
      go_wp2
      go_ret2
      exact ⟨rfl, rfl⟩

set_option maxHeartbeats 2000000 in
theorem smany_bad {w : World} {v : Value} {n : Nat} {xs : Nat → Int} (hv : Il w v n xs) (hn : n ≤ 1048576) {k : Int} (h : ¬ ((0 ≤ k ∧ k ≤ 30) ∧ Rc n xs)) :
    Calls Tryd.prog 43 #[.int .i64 k, v] w fun e w' => e = .returned (.tuple #[.int .i64 0, .bool false]) ∧ w' = w := by
  have i1 := in_any k 0 30
  have i3 := sWth_any (M := 1000000000) hv hn (by omega)
  obtain ⟨ao, cap, rfl, hcap, hc⟩ := hv
  clear hc
  by_cases c1 : 0 ≤ k ∧ k ≤ 30
  · rw [decide_eq_true c1] at i1
    by_cases c2 : n ≤ 128
    · skip
      rw [decide_eq_false (fun c3 => h ⟨c1, c2, c3⟩)] at i3
      clear h
      go_enter Tryd.func43, Tryd.ntmps43
      go_wp2_with (first | (go_at_call 59; (with_reducible refine (i1 _).mono ?_); rintro e w' ⟨rfl, hw⟩; obtain rfl := hw.symm) | (go_at_call 73; (with_reducible refine (i3).mono ?_); rintro e w' ⟨rfl, hw⟩; obtain rfl := hw.symm))
      go_ret2
      exact ⟨rfl, rfl⟩
    · skip
      clear h
      clear i3
      go_enter Tryd.func43, Tryd.ntmps43
      go_wp2_with (first | (go_at_call 59; (with_reducible refine (i1 _).mono ?_); rintro e w' ⟨rfl, hw⟩; obtain rfl := hw.symm))
      go_ret2
      exact ⟨rfl, rfl⟩
  · rw [decide_eq_false c1] at i1
    clear h
    clear i3
    go_enter Tryd.func43, Tryd.ntmps43
    go_wp2_with (first | (go_at_call 59; (with_reducible refine (i1 _).mono ?_); rintro e w' ⟨rfl, hw⟩; obtain rfl := hw.symm))
    go_ret2
    exact ⟨rfl, rfl⟩
end Go.Proofs.YtndagpompioooaaDoor
