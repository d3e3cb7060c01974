/- The model's Unpack by its kind alone; the model's Compare and Next. -/
import Derived.Test.YtcpnmcfpnhokgaaDoorHW2
import Derived.WalkKit
import Derived.WalkSpells
import Derived.WalkLawsBesides
import Derived.Deep.QuietTactic
import Derived.BigQuiet
import Derived.Test.YtcpnmcfpnhokgaaDoorHS1
import Derived.RegionTactic
import Derived.Deep.RegionWith
import Derived.Test.YtcpnmcfpnhokgaaDoorHC1
import Derived.Test.YtcpnmcfpnhokgaaDoorV1
namespace Go.Proofs.YtcpnmcfpnhokgaaDoor
open Go.RowKit

set_option maxRecDepth 100000 in
set_option maxHeartbeats 1000000 in
theorem scompare_any (f x y a b r : Int) (w : World)
    (hx : ∀ w, Calls Tryd.prog 12 #[.int .i64 f, .int .u64 x] w fun e w' => ∃ (n : Bool) (u m : Int), e = .returned (.agg #[.int .i64 a, .bool n, .int .i64 u, .int .u64 m]) ∧ Below w.heap.size w w')
    (hy : ∀ w, Calls Tryd.prog 12 #[.int .i64 f, .int .u64 y] w fun e w' => ∃ (n : Bool) (u m : Int), e = .returned (.agg #[.int .i64 b, .bool n, .int .i64 u, .int .u64 m]) ∧ Below w.heap.size w w')
    (ho : ∀ w, Calls Tryd.prog 50 #[.int .i64 f, .int .u64 x, .int .u64 y] w fun e w' => e = .returned (.int .i64 r) ∧ w' = w) :
    Calls Tryd.prog 21 #[.int .i64 f, .int .u64 x, .int .u64 y] w fun e w' => e = .returned (.int .i64 (if 3 ≤ a ∨ 3 ≤ b then 2 else if a = 0 ∧ b = 0 then 0 else r)) ∧ Below w.heap.size w w' := by
  by_cases ha : 3 ≤ a
  · rw [if_pos (Or.inl ha)]
    go_enter Tryd.func21, Tryd.ntmps21
    go_wp2_with (first | (go_at_call 12; (first | with_reducible refine (hx _).mono ?_ | with_reducible refine (hy _).mono ?_); rintro e w' ⟨n, u, m, rfl, hb⟩; obtain ⟨hc, hf⟩ := bcell hb) | (go_at_call 50; refine (ho _).mono ?_; rintro e w' ⟨rfl, rfl⟩))
    go_ret
    exact ⟨rfl, below_22 _ _ ‹Below w.heap.size w _› hb⟩
  · by_cases hb : 3 ≤ b
    · rw [if_pos (Or.inr hb)]
      go_enter Tryd.func21, Tryd.ntmps21
      go_wp2_with (first | (go_at_call 12; (first | with_reducible refine (hx _).mono ?_ | with_reducible refine (hy _).mono ?_); rintro e w' ⟨n, u, m, rfl, hb⟩; obtain ⟨hc, hf⟩ := bcell hb) | (go_at_call 50; refine (ho _).mono ?_; rintro e w' ⟨rfl, rfl⟩))
      go_ret
      exact ⟨rfl, below_22 _ _ ‹Below w.heap.size w _› hb⟩
    · rw [if_neg (by omega)]
      by_cases ha0 : a = 0
      · have ha1 : (a == 0) = true := by simpa using ha0
        by_cases hb0 : b = 0
        · have hb1 : (b == 0) = true := by simpa using hb0
          rw [if_pos ⟨ha0, hb0⟩]
          clear ha0 hb0
          go_enter Tryd.func21, Tryd.ntmps21
          go_wp2_with (first | (go_at_call 12; (first | with_reducible refine (hx _).mono ?_ | with_reducible refine (hy _).mono ?_); rintro e w' ⟨n, u, m, rfl, hb⟩; obtain ⟨hc, hf⟩ := bcell hb) | (go_at_call 50; refine (ho _).mono ?_; rintro e w' ⟨rfl, rfl⟩))
          go_ret
          exact ⟨rfl, below_22 _ _ ‹Below w.heap.size w _› hb⟩
        · have hb1 : (b == 0) = false := by simpa using hb0
          rw [if_neg (by omega)]
          clear ha0 hb0
          go_enter Tryd.func21, Tryd.ntmps21
          go_wp2_with (first | (go_at_call 12; (first | with_reducible refine (hx _).mono ?_ | with_reducible refine (hy _).mono ?_); rintro e w' ⟨n, u, m, rfl, hb⟩; obtain ⟨hc, hf⟩ := bcell hb) | (go_at_call 50; refine (ho _).mono ?_; rintro e w' ⟨rfl, rfl⟩))
          go_ret
          exact ⟨rfl, below_22 _ _ ‹Below w.heap.size w _› hb⟩
      · have ha1 : (a == 0) = false := by simpa using ha0
        rw [if_neg (by omega)]
        clear ha0
        go_enter Tryd.func21, Tryd.ntmps21
        go_wp2_with (first | (go_at_call 12; (first | with_reducible refine (hx _).mono ?_ | with_reducible refine (hy _).mono ?_); rintro e w' ⟨n, u, m, rfl, hb⟩; obtain ⟨hc, hf⟩ := bcell hb) | (go_at_call 50; refine (ho _).mono ?_; rintro e w' ⟨rfl, rfl⟩))
        go_ret
        exact ⟨rfl, below_22 _ _ ‹Below w.heap.size w _› hb⟩

end Go.Proofs.YtcpnmcfpnhokgaaDoor

/- The walks of the small functions of chapter 1: what each call answers, and that it leaves old memory as it was. -/
namespace Go.Proofs.YtcpnmcfpnhokgaaDoor
open Go.RowKit

set_option maxRecDepth 100000 in
theorem rank_low {f wd p t S D : Int} (hF : Form f wd p t S D) (x l : Int) (w : World) (h0 : 0 ≤ x) (h1 : x < S) :
    Calls Tryd.prog 49 #[.agg #[.int .i64 wd, .int .i64 p, .int .i64 t], .int .u64 x, .int .i64 l] w fun e w' => e = .returned (.int .i64 x) ∧ Below w.heap.size w w' := by
  rcases hF with ⟨rfl, rfl, rfl, rfl, rfl, rfl⟩ | ⟨rfl, rfl, rfl, rfl, rfl, rfl⟩ | ⟨rfl, rfl, rfl, rfl, rfl, rfl⟩
  · have ha := (and16 x h0 (by omega)).1
    rw [if_pos h1] at ha
    go_enter Tryd.func49, Tryd.ntmps49
    go_wp2
    go_ret
    exact ⟨rfl, ((Below.refl _ _).alloc (Nat.le_refl _) _).alloc (by simp) _⟩
  · have ha := (and32 x h0 (by omega)).1
    rw [if_pos h1] at ha
    go_enter Tryd.func49, Tryd.ntmps49
    go_wp2
    go_ret
    exact ⟨rfl, ((Below.refl _ _).alloc (Nat.le_refl _) _).alloc (by simp) _⟩
  · have ha := (and64 x h0 (by omega)).1
    rw [if_pos h1] at ha
    go_enter Tryd.func49, Tryd.ntmps49
    go_wp2
    go_ret
    exact ⟨rfl, ((Below.refl _ _).alloc (Nat.le_refl _) _).alloc (by simp) _⟩

set_option maxRecDepth 100000 in
theorem rank_high {f wd p t S D : Int} (hF : Form f wd p t S D) (x l : Int) (w : World) (h1 : S ≤ x) (h2 : x < D) (hl0 : 0 ≤ l) (hl1 : l ≤ 1) :
    Calls Tryd.prog 49 #[.agg #[.int .i64 wd, .int .i64 p, .int .i64 t], .int .u64 x, .int .i64 l] w fun e w' => e = .returned (.int .i64 (-(x - S) - l)) ∧ Below w.heap.size w w' := by
  rcases hF with ⟨rfl, rfl, rfl, rfl, rfl, rfl⟩ | ⟨rfl, rfl, rfl, rfl, rfl, rfl⟩ | ⟨rfl, rfl, rfl, rfl, rfl, rfl⟩
  · obtain ⟨ha, hb⟩ := and16 x (by omega) (by omega)
    rw [if_neg (by omega)] at ha hb
    go_enter Tryd.func49, Tryd.ntmps49
    go_wp2
    go_ret
    exact ⟨rfl, (((Below.refl _ _).alloc (Nat.le_refl _) _).alloc (by simp) _).alloc (by simp; omega) _⟩
  · obtain ⟨ha, hb⟩ := and32 x (by omega) (by omega)
    rw [if_neg (by omega)] at ha hb
    go_enter Tryd.func49, Tryd.ntmps49
    go_wp2
    go_ret
    exact ⟨rfl, (((Below.refl _ _).alloc (Nat.le_refl _) _).alloc (by simp) _).alloc (by simp; omega) _⟩
  · obtain ⟨ha, hb⟩ := and64 x (by omega) (by omega)
    rw [if_neg (by omega)] at ha hb
    go_enter Tryd.func49, Tryd.ntmps49
    go_wp2
    go_ret
    exact ⟨rfl, (((Below.refl _ _).alloc (Nat.le_refl _) _).alloc (by simp) _).alloc (by simp; omega) _⟩
end Go.Proofs.YtcpnmcfpnhokgaaDoor

/- The walks of Order, on both sides. -/
namespace Go.Proofs.YtcpnmcfpnhokgaaDoor
open Go.RowKit

set_option maxRecDepth 100000 in
theorem compare_any (x y : Int) (w : World) :
    Calls Tryd.prog 48 #[.int .i64 x, .int .i64 y] w fun e w' => e = .returned (.int .i64 (cmp3 x y)) ∧ w' = w := by
  have hx : (x != x) = false := by simp
  have hy : (y != y) = false := by simp
  unfold cmp3
  by_cases h1 : x < y
  · rw [if_pos h1]
    go_enter Tryd.func48, Tryd.ntmps48
    go_wp2
    go_ret
    exact ⟨rfl, rfl⟩
  · rw [if_neg h1]
    by_cases h2 : y < x
    · rw [if_pos h2]
      go_enter Tryd.func48, Tryd.ntmps48
      go_wp2
      go_ret
      exact ⟨rfl, rfl⟩
    · rw [if_neg h2]
      go_enter Tryd.func48, Tryd.ntmps48
      go_wp2
      go_ret
      exact ⟨rfl, rfl⟩

theorem rank_any {f wd p t S D : Int} (hF : Form f wd p t S D) (x l : Int) (w : World) (h0 : 0 ≤ x) (h2 : x < D) (hl0 : 0 ≤ l) (hl1 : l ≤ 1) :
    Calls Tryd.prog 49 #[.agg #[.int .i64 wd, .int .i64 p, .int .i64 t], .int .u64 x, .int .i64 l] w fun e w' => e = .returned (.int .i64 (rk S x l)) ∧ Below w.heap.size w w' := by
  unfold rk
  by_cases h : x < S
  · rw [if_pos h]; exact rank_low hF x l w h0 h
  · rw [if_neg h]; exact rank_high hF x l w (by omega) h2 hl0 hl1

end Go.Proofs.YtcpnmcfpnhokgaaDoor

/- The walks of the model's Order. -/
namespace Go.Proofs.YtcpnmcfpnhokgaaDoor
open Go.RowKit

set_option maxRecDepth 100000 in
theorem sorder_no (form x y : Int) (w : World) (h : form < 1 ∨ 3 < form) :
    Calls Tryd.prog 50 #[.int .i64 form, .int .u64 x, .int .u64 y] w fun e w' => e = .returned (.int .i64 2) ∧ w' = w := by
  go_enter Tryd.func50, Tryd.ntmps50
  go_wp2_with (go_at_call 39; refine (l1Are_no _ _ _ h).mono ?_; rintro e w' ⟨rfl, rfl⟩)
  go_ret
  exact ⟨rfl, rfl⟩

set_option maxRecDepth 100000 in
set_option maxHeartbeats 1000000 in
theorem sorder_yes {f wd p t S D : Int} (hF : Form f wd p t S D) (x y : Int) (w : World) (hx0 : 0 ≤ x) (hx1 : x < D) (hy0 : 0 ≤ y) (hy1 : y < D) :
    Calls Tryd.prog 50 #[.int .i64 f, .int .u64 x, .int .u64 y] w fun e w' => e = .returned (.int .i64 (ord S x y)) ∧ w' = w := by
  have hS : (S == 0) = false := by rcases hF with ⟨_, _, _, _, rfl, _⟩ | ⟨_, _, _, _, rfl, _⟩ | ⟨_, _, _, _, rfl, _⟩ <;> rfl
  have hD : D ≤ 18446744073709551616 := by rcases hF with ⟨_, _, _, _, _, rfl⟩ | ⟨_, _, _, _, _, rfl⟩ | ⟨_, _, _, _, _, rfl⟩ <;> decide
  have hxa := fun w => l1Are_any hF x hx0 (by omega) w
  have hya := fun w => l1Are_any hF y hy0 (by omega) w
  have hax := (and_any hF x hx0 hx1).1
  have hay := (and_any hF y hy0 hy1).1
  rw [Int.ediv_eq_zero_of_lt hx0 hx1] at hxa
  rw [Int.ediv_eq_zero_of_lt hy0 hy1] at hya
  have hsg := fun w => l1Sign_true hF w
  clear hD hF
  unfold ord
  by_cases hx : x < S <;> by_cases hy : y < S
  all_goals simp only [hx, hy, if_true, if_false] at hax hay
  all_goals rcases Int.lt_trichotomy x y with h | h | h
  all_goals simp only [Int.lt_irrefl, h]
  all_goals
    go_enter Tryd.func50, Tryd.ntmps50
    go_wp2_with (first | (go_at_call 39; (first | with_reducible refine (hxa _).mono ?_ | with_reducible refine (hya _).mono ?_); rintro e w' ⟨rfl, rfl⟩) | (go_at_call 44; refine (hsg _).mono ?_; rintro e w' ⟨rfl, rfl⟩))
  all_goals (go_ret; exact ⟨rfl, rfl⟩)
end Go.Proofs.YtcpnmcfpnhokgaaDoor

/- The walk of the law of Order: it answers true, and old memory stays as it was. -/
namespace Go.Proofs.YtcpnmcfpnhokgaaDoor
open Go.RowKit

set_option maxRecDepth 100000 in
theorem sorder_bad {f wd p t S D : Int} (hF : Form f wd p t S D) (x y : Int) (w : World) (hx0 : 0 ≤ x) (hx1 : x < 18446744073709551616) (hy0 : 0 ≤ y) (hy1 : y < 18446744073709551616) (h : D ≤ x ∨ D ≤ y) :
    Calls Tryd.prog 50 #[.int .i64 f, .int .u64 x, .int .u64 y] w fun e w' => e = .returned (.int .i64 2) ∧ w' = w := by
  have hD : 0 < D := by rcases hF with ⟨_, _, _, _, _, rfl⟩ | ⟨_, _, _, _, _, rfl⟩ | ⟨_, _, _, _, _, rfl⟩ <;> decide
  have hxa := fun w => l1Are_any hF x hx0 hx1 w
  have hya := fun w => l1Are_any hF y hy0 hy1 w
  clear hx1 hy1
  by_cases hx : D ≤ x
  · rw [div_no hD hx] at hxa
    go_enter Tryd.func50, Tryd.ntmps50
    go_wp2_with (go_at_call 39; refine (hxa _).mono ?_; rintro e w' ⟨rfl, rfl⟩)
    go_ret
    exact ⟨rfl, rfl⟩
  · rw [div_no hD (by omega)] at hya
    by_cases hxd : (x / D == 0) = true
    · rw [hxd] at hxa
      go_enter Tryd.func50, Tryd.ntmps50
      go_wp2_with (go_at_call 39; (first | with_reducible refine (hxa _).mono ?_ | with_reducible refine (hya _).mono ?_); rintro e w' ⟨rfl, rfl⟩)
      go_ret
      exact ⟨rfl, rfl⟩
    · rw [Bool.eq_false_iff.2 hxd] at hxa
      go_enter Tryd.func50, Tryd.ntmps50
      go_wp2_with (go_at_call 39; refine (hxa _).mono ?_; rintro e w' ⟨rfl, rfl⟩)
      go_ret
      exact ⟨rfl, rfl⟩

end Go.Proofs.YtcpnmcfpnhokgaaDoor

/- The program's Compare; both sides of Compare; the law of Compare. -/
namespace Go.Proofs.YtcpnmcfpnhokgaaDoor
open Go.RowKit

set_option maxRecDepth 100000 in
set_option maxHeartbeats 4000000 in
theorem compare_yes {f wd p t S D h q : Int} (hF : Frm f wd p t S D h q) (x y : Int) (w : World) (hs : Shp w) (hx0 : 0 ≤ x) (hx1 : x < D) (hy0 : 0 ≤ y) (hy1 : y < D) :
    Calls Tryd.prog 19 #[.int .i64 f, .int .u64 x, .int .u64 y] w fun e w' => e = .returned (.int .i64 (if (2 * t + 1) * h < sz S x ∨ (2 * t + 1) * h < sz S y then 2 else cmp3 (rk S x 0) (rk S y 0))) ∧ Below w.heap.size w w' := by
  have hBx := fun w hs => isBits_yes hF.form x hx0 hx1 w hs
  have hBy := fun w hs => isBits_yes hF.form y hy0 hy1 w hs
  have hNx := fun w => isNan_any hF x w hx0 hx1
  have hNy := fun w => isNan_any hF y w hy0 hy1
  have hRx := fun w => rank_any hF.form x 0 w hx0 hx1 (by decide) (by decide)
  have hRy := fun w => rank_any hF.form y 0 w hy0 hy1 (by decide) (by decide)
  generalize rk S x 0 = rx at *
  generalize rk S y 0 = ry at *
  generalize (2 * t + 1) * h = i at *
  generalize sz S x = zx at *
  generalize sz S y = zy at *
  have hsc := hs
  obtain ⟨c0, c1, c2, c3, c4, c5, c6, c7, c8, c9, c10, c11⟩ := hsc
  rcases hF with ⟨rfl, rfl, rfl, rfl, hSe, rfl, rfl, rfl⟩ | ⟨rfl, rfl, rfl, rfl, hSe, rfl, rfl, rfl⟩ | ⟨rfl, rfl, rfl, rfl, hSe, rfl, rfl, rfl⟩
  all_goals
    clear hSe hx0 hx1 hy0 hy1
    by_cases hnx : i < zx
    · rw [if_pos (Or.inl hnx)]
      rw [decide_eq_true hnx] at hNx
      clear hnx
      go_enter Tryd.func19, Tryd.ntmps19
      go_wp2_with (first | (go_at_call 34; (first | with_reducible refine (hBx _ hs).mono ?_ | with_reducible refine (hBy _ hs).mono ?_); rintro e w' ⟨rfl, hw⟩; replace hw := hw.symm; subst hw) | (go_at_call 47; with_reducible refine (hNx _).mono ?_; rintro e w1 ⟨rfl, hb⟩))
      go_ret
      exact ⟨rfl, below_a1 _ hb⟩
    · rw [decide_eq_false hnx] at hNx
      by_cases hny : i < zy
      · rw [if_pos (Or.inr hny)]
        rw [decide_eq_true hny] at hNy
        clear hnx hny
        go_enter Tryd.func19, Tryd.ntmps19
        go_wp2_with (first | (go_at_call 34; (first | with_reducible refine (hBx _ hs).mono ?_ | with_reducible refine (hBy _ hs).mono ?_); rintro e w' ⟨rfl, hw⟩; replace hw := hw.symm; subst hw) | (go_at_call 47; with_reducible refine (hNx _).mono ?_; rintro e w1 ⟨rfl, hb⟩; obtain ⟨hc, hf⟩ := bcell hb; have hsz := szlt hb) | (go_at_call 47; with_reducible refine (hNy _).mono ?_; rintro e w2 ⟨rfl, hb2⟩))
        go_ret
        exact ⟨rfl, below_a2 _ hb hb2⟩
      · rw [if_neg (by omega)]
        rw [decide_eq_false hny] at hNy
        clear hnx hny
        go_enter Tryd.func19, Tryd.ntmps19
        go_wp2_with (first | (go_at_call 34; (first | with_reducible refine (hBx _ hs).mono ?_ | with_reducible refine (hBy _ hs).mono ?_); rintro e w' ⟨rfl, hw⟩; replace hw := hw.symm; subst hw) | (go_at_call 47; with_reducible refine (hNx _).mono ?_; rintro e w1 ⟨rfl, hb⟩; obtain ⟨hc, hf⟩ := bcell hb; have hsz := szlt hb) | (go_at_call 47; with_reducible refine (hNy _).mono ?_; rintro e w2 ⟨rfl, hb2⟩; obtain ⟨hc2, hf2⟩ := bcell hb2))
        obtain ⟨k0, k1, k2, hs2⟩ := cells_kept hb hb2
        clear c0 c1 c2 c3 c4 c5 c6 c7 c8 c9 c10 c11 hs hsz hc hf hc2 hf2 hNx hNy hBx hBy
        go_region_with (first | (go_at_call 49; (first | with_reducible refine (hRx _).mono ?_ | with_reducible refine (hRy _).mono ?_); rintro e w' ⟨rfl, hb3⟩; obtain ⟨k0, k1, k2, hs2⟩ := cells_next hb3 hs2 k0 k1 k2) | (go_at_call 48; refine (compare_any _ _ _).mono ?_; rintro e w' ⟨rfl, rfl⟩))
        all_goals
          go_wp2
          go_ret
          exact ⟨rfl, below_r4 _ hb hb2 ‹Below w2.drew.heap.size w2.drew _› hb3⟩

set_option maxRecDepth 100000 in
set_option maxHeartbeats 1000000 in
theorem compare_bad (f x y : Int) (w : World) (hs : Shp w) (c d : Bool)
    (hx : ∀ w, Shp w → Calls Tryd.prog 34 #[.int .i64 f, .int .u64 x] w fun e w' => e = .returned (.bool c) ∧ w' = w)
    (hy : ∀ w, Shp w → Calls Tryd.prog 34 #[.int .i64 f, .int .u64 y] w fun e w' => e = .returned (.bool d) ∧ w' = w) (h : c = false ∨ d = false) :
    Calls Tryd.prog 19 #[.int .i64 f, .int .u64 x, .int .u64 y] w fun e w' => e = .returned (.int .i64 2) ∧ w' = w := by
  cases c
  · go_enter Tryd.func19, Tryd.ntmps19
    go_wp2_with (go_at_call 34; refine (hx _ hs).mono ?_; rintro e w' ⟨rfl, rfl⟩)
    go_ret
    exact ⟨rfl, rfl⟩
  · obtain rfl : d = false := by simpa using h
    go_enter Tryd.func19, Tryd.ntmps19
    go_wp2_with (go_at_call 34; (first | with_reducible refine (hx _ hs).mono ?_ | with_reducible refine (hy _ hs).mono ?_); rintro e w' ⟨rfl, rfl⟩)
    go_ret
    exact ⟨rfl, rfl⟩

theorem sorder_ex (f x y : Int) (hx0 : 0 ≤ x) (hx1 : x < 18446744073709551616) (hy0 : 0 ≤ y) (hy1 : y < 18446744073709551616) : ∃ o : Int, ∀ w, Calls Tryd.prog 50 #[.int .i64 f, .int .u64 x, .int .u64 y] w fun e w' => e = .returned (.int .i64 o) ∧ w' = w := by
  by_cases hf : f < 1 ∨ 3 < f
  · exact ⟨_, fun w => sorder_no f x y w hf⟩
  obtain ⟨wd, p, t, S, D, h, q, hF⟩ := frm_of f hf
  by_cases hb : D ≤ x ∨ D ≤ y
  · exact ⟨_, fun w => sorder_bad hF.form x y w hx0 hx1 hy0 hy1 hb⟩
  · exact ⟨_, fun w => sorder_yes hF.form x y w hx0 (by omega) hy0 (by omega)⟩

theorem compare_both (f x y : Int) (hx0 : 0 ≤ x) (hx1 : x < 18446744073709551616) (hy0 : 0 ≤ y) (hy1 : y < 18446744073709551616) :
    ∃ r : Int, (∀ w, Calls Tryd.prog 21 #[.int .i64 f, .int .u64 x, .int .u64 y] w fun e w' => e = .returned (.int .i64 r) ∧ Below w.heap.size w w') ∧
      (∀ w, Shp w → Calls Tryd.prog 19 #[.int .i64 f, .int .u64 x, .int .u64 y] w fun e w' => e = .returned (.int .i64 r) ∧ Below w.heap.size w w') ∧
      (r = 2 ∨ ∃ wd p t S D h q, Frm f wd p t S D h q ∧ x < D ∧ y < D ∧ ¬ (2 * t + 1) * h < sz S x ∧ ¬ (2 * t + 1) * h < sz S y ∧ r = cmp3 (rk S x 0) (rk S y 0)) := by
  obtain ⟨o, ho⟩ := sorder_ex f x y hx0 hx1 hy0 hy1
  have kind : ∀ z, 0 ≤ z → z < 18446744073709551616 → (∃ c : Bool, ∀ w, Shp w → Calls Tryd.prog 34 #[.int .i64 f, .int .u64 z] w fun e w' => e = .returned (.bool c) ∧ w' = w) ∧
      ∃ k : Int, ∀ w, Calls Tryd.prog 12 #[.int .i64 f, .int .u64 z] w fun e w' => ∃ (n : Bool) (u m : Int), e = .returned (.agg #[.int .i64 k, .bool n, .int .i64 u, .int .u64 m]) ∧ Below w.heap.size w w' := by
    intro z hz0 hz1
    rcases both_no f z hz0 hz1 with ⟨hA, hB⟩ | ⟨wd, p, t, S, D, h, q, hF, hD⟩
    · exact ⟨⟨_, hB⟩, _, fun w => (sunpack_none f z hA w).mono fun e w' h => ⟨_, _, _, h.1, h.2⟩⟩
    · exact ⟨⟨_, fun w hs => isBits_yes hF.form z hz0 hD w hs⟩, _, fun w => sunpack_kind hF z w hz0 hD⟩
  have bad : ∀ z, ((∀ w, Calls Tryd.prog 39 #[.int .i64 f, .int .u64 z] w fun e w' => e = .returned (.bool false) ∧ w' = w)) →
      ∀ w, Calls Tryd.prog 12 #[.int .i64 f, .int .u64 z] w fun e w' => ∃ (n : Bool) (u m : Int), e = .returned (.agg #[.int .i64 4, .bool n, .int .i64 u, .int .u64 m]) ∧ Below w.heap.size w w' :=
    fun z hA w => (sunpack_none f z hA w).mono fun e w' h => ⟨_, _, _, h.1, h.2⟩
  obtain ⟨⟨cx, hcx⟩, kx, hkx⟩ := kind x hx0 hx1
  obtain ⟨⟨cy, hcy⟩, ky, hky⟩ := kind y hy0 hy1
  rcases both_no f x hx0 hx1 with ⟨hA, hB⟩ | ⟨wd, p, t, S, D, h, q, hF, hD⟩
  · refine ⟨2, fun w => ?_, fun w hs => (compare_bad f x y w hs false cy hB hcy (Or.inl rfl)).mono fun e w' h => ⟨h.1, h.2 ▸ Below.refl _ _⟩, Or.inl rfl⟩
    have := scompare_any f x y 4 ky o w (bad x hA) hky ho
    rwa [if_pos (Or.inl (by decide))] at this
  rcases both_no f y hy0 hy1 with ⟨hA, hB⟩ | ⟨wd', p', t', S', D', h', q', hF', hD'⟩
  · refine ⟨2, fun w => ?_, fun w hs => (compare_bad f x y w hs cx false hcx hB (Or.inr rfl)).mono fun e w' h => ⟨h.1, h.2 ▸ Below.refl _ _⟩, Or.inl rfl⟩
    have := scompare_any f x y kx 4 o w hkx (bad y hA) ho
    rwa [if_pos (Or.inr (by decide))] at this
  have hDD : D' = D := by
    rcases hF with ⟨rfl, _, _, _, _, rfl, _⟩ | ⟨rfl, _, _, _, _, rfl, _⟩ | ⟨rfl, _, _, _, _, rfl, _⟩ <;> rcases hF' with ⟨e, _, _, _, _, rfl, _⟩ | ⟨e, _, _, _, _, rfl, _⟩ | ⟨e, _, _, _, _, rfl, _⟩ <;> omega
  subst hDD
  have hS : 0 < S ∧ 0 < (2 * t + 1) * h := by
    rcases hF with ⟨rfl, rfl, rfl, rfl, rfl, rfl, rfl, rfl⟩ | ⟨rfl, rfl, rfl, rfl, rfl, rfl, rfl, rfl⟩ | ⟨rfl, rfl, rfl, rfl, rfl, rfl, rfl, rfl⟩ <;> decide
  refine ⟨_, fun w => scompare_any f x y _ _ _ w (fun w => sunpack_kind hF x w hx0 hD) (fun w => sunpack_kind hF y w hy0 hD') (fun w => sorder_yes hF.form x y w hx0 hD hy0 hD'), fun w hs => ?_, ?_⟩
  · have e := compare_yes hF x y w hs hx0 hD hy0 hD'
    rw [cmp_eq S x y hx0 hy0 hS.1] at e
    have a := kd_nan ((2 * t + 1) * h) (sz S x) hS.2
    have b := kd_nan ((2 * t + 1) * h) (sz S y) hS.2
    simp only [a.1, a.2, b.1, b.2]
    exact e
  · have a := kd_nan ((2 * t + 1) * h) (sz S x) hS.2
    have b := kd_nan ((2 * t + 1) * h) (sz S y) hS.2
    simp only [a.1, a.2, b.1, b.2]
    by_cases hn : (2 * t + 1) * h < sz S x ∨ (2 * t + 1) * h < sz S y
    · rw [if_pos hn]
      exact Or.inl rfl
    · rw [if_neg hn]
      exact Or.inr ⟨wd, p, t, S, _, h, q, hF, hD, hD', fun c => hn (Or.inl c), fun c => hn (Or.inr c), (cmp_eq S x y hx0 hy0 hS.1).symm⟩

end Go.Proofs.YtcpnmcfpnhokgaaDoor
