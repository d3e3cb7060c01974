/- The program's Compare; both sides of Compare; the law of Compare. -/
import Derived.Test.YtmoeojmnfcbdaaaDoorN2
namespace Go.Proofs.YtmoeojmnfcbdaaaDoor
open Go.RowKit

theorem below_r3 {w w1 w2 w3 : World} (o : Obj) (hb0 : Below (w.alloc o).heap.size (w.alloc o) w1) (hb1 : Below w1.heap.size w1 w2) (hb2 : Below w2.heap.size w2 w3) : Below w.heap.size w w3 :=
  (below_a2 o hb0 hb1).trans (hb2.mono (below_a2 o hb0 hb1).size)

theorem below_r4 {w w1 w2 w3 w4 : World} (o : Obj) (hb0 : Below (w.alloc o).heap.size (w.alloc o) w1) (hb1 : Below w1.heap.size w1 w2) (hb2 : Below w2.drew.heap.size w2.drew w3) (hb3 : Below w3.heap.size w3 w4) : Below w.heap.size w w4 := by
  have a := below_a2 o hb0 hb1
  have b : Below w2.heap.size w2 w3 := ((Below.refl _ _).drew).trans hb2
  have c := a.trans (b.mono a.size)
  exact c.trans (hb3.mono c.size)

theorem cells_kept {w w1 w2 : World} {a b c : Int} (hb : Below (w.alloc (shpObj a b c)).heap.size (w.alloc (shpObj a b c)) w1) (hb2 : Below w1.heap.size w1 w2) :
    w2.cell? ⟨w.heap.size, 0, none⟩ = some (.int .i64 a) ∧ w2.cell? ⟨w.heap.size, 1, none⟩ = some (.int .i64 b) ∧ w2.cell? ⟨w.heap.size, 2, none⟩ = some (.int .i64 c) ∧ w.heap.size < w2.heap.size := by
  have h1 := szlt hb
  have h2 := hb2.size
  refine ⟨?_, ?_, ?_, by omega⟩
  all_goals
    rw [(bcell hb2).1 _ _ h1, (bcell hb).1 _ _ (by simp)]
    go_simp

theorem cells_next {w1 w2 : World} {B : Nat} {v0 v1 v2 : Value} (hb : Below w1.heap.size w1 w2) (hs : B < w1.heap.size) (k0 : w1.cell? ⟨B, 0, none⟩ = some v0) (k1 : w1.cell? ⟨B, 1, none⟩ = some v1) (k2 : w1.cell? ⟨B, 2, none⟩ = some v2) :
    w2.cell? ⟨B, 0, none⟩ = some v0 ∧ w2.cell? ⟨B, 1, none⟩ = some v1 ∧ w2.cell? ⟨B, 2, none⟩ = some v2 ∧ B < w2.heap.size :=
  ⟨((bcell hb).1 _ _ hs).trans k0, ((bcell hb).1 _ _ hs).trans k1, ((bcell hb).1 _ _ hs).trans k2, Nat.lt_of_lt_of_le hs hb.size⟩

set_option maxHeartbeats 4000000 in
theorem compare_yes {f wd p t S D h q : Int} (hF : Frm f wd p t S D h q) (x y : Int) (w : World) (hs : Shp w) (hx0 : 0 ≤ x) (hx1 : x < D) (hy0 : 0 ≤ y) (hy1 : y < D) :
    Calls Tryd.prog 8 #[.int .i64 f, .int .u64 x, .int .u64 y] w fun e w' => e = .returned (.int .i64 (if (2 * t + 1) * h < sz S x ∨ (2 * t + 1) * h < sz S y then 2 else cmp3 (rk S x 0) (rk S y 0))) ∧ Below w.heap.size w w' := by
  have hBx := fun w hs => isBits_yes hF.form x hx0 hx1 w hs
  have hBy := fun w hs => isBits_yes hF.form y hy0 hy1 w hs
  have hNx := fun w => isNan_any hF x w hx0 hx1
  have hNy := fun w => isNan_any hF y w hy0 hy1
  have hRx := fun w => rank_any hF.form x 0 w hx0 hx1 (by decide) (by decide)
  have hRy := fun w => rank_any hF.form y 0 w hy0 hy1 (by decide) (by decide)
  generalize rk S x 0 = rx at *
  generalize rk S y 0 = ry at *
  generalize (2 * t + 1) * h = i at *
  generalize sz S x = zx at *
  generalize sz S y = zy at *
  have hsc := hs
  obtain ⟨c0, c1, c2, c3, c4, c5, c6, c7, c8, c9, c10, c11⟩ := hsc
  rcases hF with ⟨rfl, rfl, rfl, rfl, hSe, rfl, rfl, rfl⟩ | ⟨rfl, rfl, rfl, rfl, hSe, rfl, rfl, rfl⟩ | ⟨rfl, rfl, rfl, rfl, hSe, rfl, rfl, rfl⟩
  all_goals
    clear hSe hx0 hx1 hy0 hy1
    by_cases hnx : i < zx
    · rw [if_pos (Or.inl hnx)]
      rw [decide_eq_true hnx] at hNx
      clear hnx
      go_enter Tryd.func8, Tryd.ntmps8
      go_wp2_with (first | (go_at_call 11; (first | with_reducible refine (hBx _ hs).mono ?_ | with_reducible refine (hBy _ hs).mono ?_); rintro e w' ⟨rfl, hw⟩; replace hw := hw.symm; subst hw) | (go_at_call 16; with_reducible refine (hNx _).mono ?_; rintro e w1 ⟨rfl, hb⟩))
      go_ret
      exact ⟨rfl, below_a1 _ hb⟩
    · rw [decide_eq_false hnx] at hNx
      by_cases hny : i < zy
      · rw [if_pos (Or.inr hny)]
        rw [decide_eq_true hny] at hNy
        clear hnx hny
        go_enter Tryd.func8, Tryd.ntmps8
        go_wp2_with (first | (go_at_call 11; (first | with_reducible refine (hBx _ hs).mono ?_ | with_reducible refine (hBy _ hs).mono ?_); rintro e w' ⟨rfl, hw⟩; replace hw := hw.symm; subst hw) | (go_at_call 16; with_reducible refine (hNx _).mono ?_; rintro e w1 ⟨rfl, hb⟩; obtain ⟨hc, hf⟩ := bcell hb; have hsz := szlt hb) | (go_at_call 16; with_reducible refine (hNy _).mono ?_; rintro e w2 ⟨rfl, hb2⟩))
        go_ret
        exact ⟨rfl, below_a2 _ hb hb2⟩
      · rw [if_neg (by omega)]
        rw [decide_eq_false hny] at hNy
        clear hnx hny
        go_enter Tryd.func8, Tryd.ntmps8
        go_wp2_with (first | (go_at_call 11; (first | with_reducible refine (hBx _ hs).mono ?_ | with_reducible refine (hBy _ hs).mono ?_); rintro e w' ⟨rfl, hw⟩; replace hw := hw.symm; subst hw) | (go_at_call 16; with_reducible refine (hNx _).mono ?_; rintro e w1 ⟨rfl, hb⟩; obtain ⟨hc, hf⟩ := bcell hb; have hsz := szlt hb) | (go_at_call 16; with_reducible refine (hNy _).mono ?_; rintro e w2 ⟨rfl, hb2⟩; obtain ⟨hc2, hf2⟩ := bcell hb2))
        obtain ⟨k0, k1, k2, hs2⟩ := cells_kept hb hb2
        clear c0 c1 c2 c3 c4 c5 c6 c7 c8 c9 c10 c11 hs hsz hc hf hc2 hf2 hNx hNy hBx hBy
        go_region_with (first | (go_at_call 13; (first | with_reducible refine (hRx _).mono ?_ | with_reducible refine (hRy _).mono ?_); rintro e w' ⟨rfl, hb3⟩; obtain ⟨k0, k1, k2, hs2⟩ := cells_next hb3 hs2 k0 k1 k2) | (go_at_call 12; refine (compare_any _ _ _).mono ?_; rintro e w' ⟨rfl, rfl⟩))
        all_goals
          go_wp2
          go_ret
          exact ⟨rfl, below_r4 _ hb hb2 ‹Below w2.drew.heap.size w2.drew _› hb3⟩

set_option maxHeartbeats 1000000 in
theorem compare_bad (f x y : Int) (w : World) (hs : Shp w) (c d : Bool)
    (hx : ∀ w, Shp w → Calls Tryd.prog 11 #[.int .i64 f, .int .u64 x] w fun e w' => e = .returned (.bool c) ∧ w' = w)
    (hy : ∀ w, Shp w → Calls Tryd.prog 11 #[.int .i64 f, .int .u64 y] w fun e w' => e = .returned (.bool d) ∧ w' = w) (h : c = false ∨ d = false) :
    Calls Tryd.prog 8 #[.int .i64 f, .int .u64 x, .int .u64 y] w fun e w' => e = .returned (.int .i64 2) ∧ w' = w := by
  cases c
  · go_enter Tryd.func8, Tryd.ntmps8
    go_wp2_with (go_at_call 11; refine (hx _ hs).mono ?_; rintro e w' ⟨rfl, rfl⟩)
    go_ret
    exact ⟨rfl, rfl⟩
  · obtain rfl : d = false := by simpa using h
    go_enter Tryd.func8, Tryd.ntmps8
    go_wp2_with (go_at_call 11; (first | with_reducible refine (hx _ hs).mono ?_ | with_reducible refine (hy _ hs).mono ?_); rintro e w' ⟨rfl, rfl⟩)
    go_ret
    exact ⟨rfl, rfl⟩

theorem kd_nan (i s : Int) (_h0 : 0 < i) : (3 ≤ kd i s ↔ i < s) ∧ (kd i s = 0 ↔ s = 0) := by
  unfold kd
  constructor
  · repeat' split
    all_goals omega
  · repeat' split
    all_goals omega

theorem cmp_eq (S x y : Int) (hx0 : 0 ≤ x) (hy0 : 0 ≤ y) (hS : 0 < S) : cmp3 (rk S x 0) (rk S y 0) = if sz S x = 0 ∧ sz S y = 0 then 0 else ord S x y := by
  unfold cmp3 rk ord sz
  by_cases hx : x < S <;> by_cases hy : y < S
  · simp only [if_pos hx, if_pos hy]
    repeat' split
    all_goals omega
  · simp only [if_pos hx, if_neg hy]
    repeat' split
    all_goals omega
  · simp only [if_neg hx, if_pos hy]
    repeat' split
    all_goals omega
  · simp only [if_neg hx, if_neg hy]
    repeat' split
    all_goals omega

end Go.Proofs.YtmoeojmnfcbdaaaDoor
